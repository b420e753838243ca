import Derived.Test.YtdanomklbiidaaaGreatDoorMgAI
import Derived.Test.YtdanomklbiidaaaGreatDoorMgAN
import Derived.Test.YtdanomklbiidaaaGreatDoorMgAE
import Derived.Test.YtdanomklbiidaaaGreatDoorHm7
import Derived.Test.YtdanomklbiidaaaGreatDoorMgAO
import Derived.Test.YtdanomklbiidaaaGreatDoorMgAL
import Derived.Test.YtdanomklbiidaaaGreatDoorMgAP
import Derived.Test.YtdanomklbiidaaaGreatDoorMgAM
namespace Go.Proofs.YtdanomklbiidaaaGreatDoor
open Go.RowKit
attribute [local go_sem ↓] Go.wp_at_zero Go.wp_at_succ
def overL (r x:List Int):Int:=dotL (r.take x.length) x-r.getD x.length 0
end Go.Proofs.YtdanomklbiidaaaGreatDoor

namespace Go.Proofs.YtdanomklbiidaaaGreatDoor
open Go.RowKit
theorem ext_all:∀(k:Nat) {n fr:Nat} {c:List Int},c.length=k→(∀i,i < k→(fr:Int)≤c.getD i 0∧c.getD i 0 < n)→(∀i j,i < j→j < k→c.getD i 0 < c.getD j 0)→c∈ext n k fr
 | 0,n,fr,c,hl,_,_=>by
  have:=List.eq_nil_of_length_eq_zero hl
  subst this
  simp [ext]
 | k+1,n,fr,c,hl,hb,hr=>by
  cases c with
  | nil=>simp at hl
  | cons a c=>
   have h0:=hb 0 (by omega)
   simp only [List.getD_cons_zero] at h0
   simp only [ext,List.mem_flatMap,List.mem_map,List.mem_range'_1]
   refine ⟨a.toNat,by omega,c,ext_all k (by simpa using hl) (fun i hi=>?_) (fun i j hij hj=>?_),by congr 1; omega⟩
   ·have h1:=hb (i+1) (by omega)
    have h2:=hr 0 (i+1) (by omega) (by omega)
    simp only [List.getD_cons_succ,List.getD_cons_zero] at h1 h2
    exact ⟨by omega,h1.2⟩
   ·have h2:=hr (i+1) (j+1) (by omega) (by omega)
    simpa only [List.getD_cons_succ] using h2
theorem chosen_ext {k n:Nat} {c:List Int} : c∈chosenL k n↔c∈ext n k 0:=by
 constructor
 ·intro h
  obtain ⟨h1,h2⟩:=chosen_mem k n c h
  exact ext_all k (chosen_row k n c h) (fun i hi=>by have:=h1 i hi; exact ⟨by simpa using this.1,this.2⟩) h2
 ·intro h
  obtain ⟨h1,h2,h3⟩:=ext_rise h
  have:=chosen_all k n (fun i=>(c.getD i 0).toNat) ⟨fun i j hij hj=>by
   have q1:=h3 i j hij hj
   have q2:=h2 i (by omega)
   show (c.getD i 0).toNat < (c.getD j 0).toNat
   omega,fun i hi=>by
   have q2:=h2 i hi
   show (c.getD i 0).toNat < n
   omega⟩
  have e:((List.range k).map fun i=>(((c.getD i 0).toNat:Nat):Int))=c:=by
   apply List.ext_getElem
   ·simp [h1]
   ·intro i q1 q2
    have:=h2 i (by omega)
    have e2:c.getD i 0=c[i]:=by simp [show i < c.length by omega]
    simp only [List.getElem_map,List.getElem_range]
    rw [←e2]
    omega
  rw [e] at this
  exact this
def rowsD (P:List (List Int)) (d:Nat):List (List Int):=(chosenL d P.length).flatMap fun c=>(rowT (pks P [] c) P).toList
theorem mem_rowsD {P:List (List Int)} {d:Nat} {r:List Int} : r∈rowsD P d↔r∈rowsC P [] d P:=by
 rw [←rows_ext]
 unfold rowsD
 simp only [List.mem_flatMap]
 constructor
 ·rintro ⟨c,hc,h⟩
  exact ⟨c,chosen_ext.1 hc,h⟩
 ·rintro ⟨c,hc,h⟩
  exact ⟨c,chosen_ext.2 hc,h⟩
end Go.Proofs.YtdanomklbiidaaaGreatDoor

namespace Go.Proofs.YtdanomklbiidaaaGreatDoor
open Go.RowKit
attribute [local go_sem ↓] Go.wp_at_zero Go.wp_at_succ
def rowsTo (P:List (List Int)) (C:List (List Int)) (i:Nat):List (List Int):=(C.take i).flatMap fun c=>(rowT (pks P [] c) P).toList
theorem rowsTo_succ (P C:List (List Int)) (i:Nat) (h:i < C.length):rowsTo P C (i+1)=rowsTo P C i ++ (rowT (pks P [] (C.getD i [])) P).toList:=by
 unfold rowsTo
 have e:C.getD i []=C[i]:=by simp [h]
 rw [List.take_succ_eq_append_getElem h,List.flatMap_append,e]
 simp
theorem rowsTo_len (P C:List (List Int)):∀i,(rowsTo P C i).length≤i:=by
 intro i
 induction i with
 | zero=>simp [rowsTo]
 | succ i ih=>
  by_cases h:i < C.length
  ·rw [rowsTo_succ P C i h,List.length_append]
   have:(rowT (pks P [] (C.getD i [])) P).toList.length≤1:=by cases rowT (pks P [] (C.getD i [])) P <;> simp
   omega
  ·have:rowsTo P C (i+1)=rowsTo P C i:=by unfold rowsTo; rw [List.take_of_length_le (by omega),List.take_of_length_le (by omega)]
   rw [this]; omega
theorem pks_in {P:List (List Int)} {c:List Int} (h:∀q∈c,0≤q∧q < (P.length:Int)):∀x∈pks P [] c,x∈P:=by
 intro x hx
 obtain ⟨q,hq,rfl⟩:=List.mem_map.1 hx
 obtain ⟨h1,h2⟩:=h q hq
 simp [show q.toNat < P.length by omega]
theorem rowsD_facts {d:Nat} {P:List (List Int)} (hP:Box d 30 P) (h1:1≤d) (h5:d≤5) (r:List Int) (hr:r∈rowsD P d):RowOf d P r:=by
 unfold rowsD at hr
 obtain ⟨c,hc,hr⟩:=List.mem_flatMap.1 hr
 have hl:=chosen_row d P.length c hc
 refine rowT_facts hP h1 h5 (by rw [←hl]; simp [pks]) (pks_in fun q hq=>?_) (Option.mem_toList.1 hr)
 obtain ⟨i,hi,rfl⟩:=List.mem_iff_getElem.1 hq
 have:=(chosen_mem d P.length c hc).1 i (by omega)
 simpa [hi] using this
end Go.Proofs.YtdanomklbiidaaaGreatDoor

namespace Go.Proofs.YtdanomklbiidaaaGreatDoor
open Go.RowKit
attribute [local go_sem ↓] Go.wp_at_zero Go.wp_at_succ
def onL (d:Nat) (s:List (List Int)) (x:List Int):List (List Int):=(s.filter fun r=>decide (overL r x=0)).map fun r=>r.take d
theorem nodup_lenL:∀s t:List (List Int),s.Nodup→(∀r∈s,r∈t)→s.length≤t.length
 | [],_,_,_=>by simp
 | a :: s,t,hn,h=>by
  obtain ⟨h1,h2⟩:=List.nodup_cons.1 hn
  have ha:=h a (by simp)
  have ih:=nodup_lenL s (t.erase a) h2 fun r hr=>(List.mem_erase_of_ne (fun e=>h1 (by rw [←e]; exact hr))).2 (h r (by simp [hr]))
  rw [List.length_erase_of_mem ha] at ih
  have:=List.length_pos_of_mem ha
  simp
  omega
theorem SAsc.nodup {s:List (List Int)} (h:SAsc s):s.Nodup:=
 List.Pairwise.imp (fun {a b} hab e=>by
  subst e
  rw [cmpL_self] at hab
  omega) h
theorem rowsD_len {d:Nat} {P s:List (List Int)} (hd:d≤4) (hP:P.length≤16) (hs:SAsc s) (hm:∀r,r∈s↔r∈rowsD P d):s.length≤16777216:=by
 have h1:=nodup_lenL s (rowsD P d) hs.nodup fun r hr=>(hm r).1 hr
 have h2:(rowsD P d).length≤(chosenL d P.length).length:=by
  have h:=rowsTo_len P (chosenL d P.length) (chosenL d P.length).length
  unfold rowsTo at h
  rw [List.take_length] at h
  exact h
 have h3:(chosenL d P.length).length≤16777216:=Nat.le_trans (chosen_len d P.length (by omega)) (Nat.le_trans (Nat.pow_le_pow_right (by decide) hd) (by decide))
 omega
def crn (d:Nat) (s P:List (List Int)):List (List Int):=P.filter fun x=>decide ((pickL d (onL d s x)).length=d)
end Go.Proofs.YtdanomklbiidaaaGreatDoor

namespace Go.Proofs.YtdanomklbiidaaaGreatDoor
open Go.RowKit
attribute [local go_sem ↓] Go.wp_at_zero Go.wp_at_succ
set_option maxRecDepth 100000 in
set_option maxHeartbeats 400000 in
theorem meet1_any (B:Nat) (r x y:List Int) (u xv yv:Value) (g1 g2:Nat) (w:World) (hu:Sl B 3 w u (ints r)) (h1:w.cell? ⟨g1,0,none⟩=some xv) (h2:w.cell? ⟨g2,0,none⟩=some yv) (hx:Sl B 3 w xv (ints x)) (hy:Sl B 3 w yv (ints y))
  (hlx:r.length=x.length+1) (hly:r.length=y.length+1) (hsx:Sm (r.take x.length) x) (hsy:Sm (r.take y.length) y) :
  Calls Tryz.prog 102 #[u,.pointer (some ⟨g1,0,none⟩),.pointer (some ⟨g2,0,none⟩)] w fun e w'=>e=.returned (.bool (decide (agn r x=0) && !decide (agn r y=0)))∧Below w.heap.size w w':=by
 have HC1:Hid (∀W,Below w.heap.size w W→Calls Tryz.prog 103 #[u,xv] W fun e w'=>e=.returned (.int .i64 (agn r x))∧Below w.heap.size w w'):=fun W hW=>
  (against_any B r x u xv W (hu.below hW (Nat.le_refl _)) (hx.below hW (Nat.le_refl _)) hlx hsx).mono fun e w' h=>⟨h.1,hW.trans (h.2.mono hW.size)⟩
 have HC2:Hid (∀W,Below w.heap.size w W→Calls Tryz.prog 103 #[u,yv] W fun e w'=>e=.returned (.int .i64 (agn r y))∧Below w.heap.size w w'):=fun W hW=>
  (against_any B r y u yv W (hu.below hW (Nat.le_refl _)) (hy.below hW (Nat.le_refl _)) hly hsy).mono fun e w' h=>⟨h.1,hW.trans (h.2.mono hW.size)⟩
 have HK:Hid (∀W,Below w.heap.size w W→W.cell? ⟨g1,0,none⟩=some xv∧W.cell? ⟨g2,0,none⟩=some yv):=fun W hW=>⟨(hW.cell (lt_of_cell h1)).trans h1,(hW.cell (lt_of_cell h2)).trans h2⟩
 clear hu hx hy hlx hly hsx hsy
 generalize agn r x=a at *
 generalize agn r y=b at *
 go_enter Tryz.func102,Tryz.ntmps102
 go_wp2_with fail
 refine (HC1.out w (Below.refl _ _)).mono ?_
 rintro e w1 ⟨rfl,hb1⟩
 have HB1:Hid (Below w.heap.size w w1):=hb1
 have k2:=(HK.out w1 hb1).2
 clear hb1 HC1 h1 h2
 by_cases ha:a=0
 ·subst ha
  go_wp2_with fail
  refine (HC2.out w1 HB1.out).mono ?_
  rintro e w2 ⟨rfl,hb2⟩
  have HB2:Hid (Below w.heap.size w w2):=hb2
  clear hb2 HC2
  by_cases hb:b=0
  ·subst hb
   go_wp2
   go_ret
   exact ⟨rfl,HB2.out⟩
  ·go_wp2
   go_ret
   exact ⟨by simp [hb],HB2.out⟩
 ·go_wp2
  go_ret
  exact ⟨by simp [ha],HB1.out⟩
end Go.Proofs.YtdanomklbiidaaaGreatDoor

namespace Go.Proofs.YtdanomklbiidaaaGreatDoor
open Go.RowKit
attribute [local go_sem ↓] Go.wp_at_zero Go.wp_at_succ
set_option maxRecDepth 100000 in
set_option maxHeartbeats 800000 in
theorem idxM_any (B:Nat) (f:List Int→Bool) (m:List (List Int)) (v:Value) (p1 p2:Addr) (w:World) (hv:Mat B 22 3 w v m)
  (hc:∀r∈m,∀(W:World) (rv:Value),Below w.heap.size w W→Sl B 3 W rv (ints r)→Calls Tryz.prog 102 #[rv,.pointer (some p1),.pointer (some p2)] W fun e w'=>e=.returned (.bool (f r))∧Below w.heap.size w w') :
  Calls Tryz.prog 41 #[v,.func (.func 102) #[] #[.pointer (some p1),.pointer (some p2)]] w fun e w'=>(∃z,e=.returned (.int .i64 z)∧-1≤z∧z < m.length∧decide (0≤z)=m.any f)∧Below w.heap.size w w':=by
 obtain ⟨ao,cap,hvv,hlc,hcm⟩:=mat_open hv
 subst hvv
 have HV:Hid (Mat B 22 3 w (.slice ao m.length cap) m):=hv
 have HC:Hid (∀r∈m,∀(W:World) (rv:Value),Below w.heap.size w W→Sl B 3 W rv (ints r)→Calls Tryz.prog 102 #[rv,.pointer (some p1),.pointer (some p2)] W fun e w'=>e=.returned (.bool (f r))∧Below w.heap.size w w'):=hc
 clear hv hc
 go_enter Tryz.func41,Tryz.ntmps41
 go_wp2
 go_loopw [8] (fun i wr=>∃k:Nat,k≤m.length∧i=.int .i64 k∧(m.take k).any f=false∧Below w.heap.size w wr) (fun i _=>m.length-(intOf i).toNat)
 case atStart=>exact ⟨0,Nat.zero_le _,rfl,by simp,Below.refl _ _⟩
 case round=>
  obtain ⟨k,hk,rfl,hno,hb⟩:=hrel
  have HN:Hid ((m.take k).any f=false):=hno
  have HB:Hid (Below w.heap.size w wr):=hb
  clear hno hb
  by_cases hlt:k < m.length
  ·obtain ⟨b1,o,cp,r1,hs,hc1,hcc,hr1⟩:=mat_cell (HV.out.below HB.out (Nat.le_refl _)) hlt
   simp only [Value.slice.injEq] at hs
   obtain ⟨rfl,hxx,rfl⟩:=hs
   clear hxx
   have HS1:Hid ((m.take (k+1)).any f=f (m.getD k [])):=anyR_snoc (p:=f) hlt HN.out
   have HME:Hid (m.getD k []∈m):=by
    show _∈_
    simp [hlt]
   have HCA:Hid (Calls Tryz.prog 102 #[r1,.pointer (some p1),.pointer (some p2)] wr fun e w'=>e=.returned (.bool (f (m.getD k [])))∧Below w.heap.size w w'):=HC.out _ HME.out wr r1 HB.out hr1
   clear hr1
   generalize m.getD k []=x at *
   obtain ⟨fb,hfb⟩:∃fb,fb=f x:=⟨_,rfl⟩
   have HFB:Hid (fb=f x):=hfb
   rw [←hfb] at HCA
   clear hfb
   go_wp2_with fail
   refine HCA.out.mono ?_
   rintro e w2 ⟨rfl,hb2⟩
   have HB2:Hid (Below w.heap.size w w2):=hb2
   clear hb2 HCA
   cases hf:fb
   ·have HF:Hid (f x=false):=by rw [←hf]; exact HFB.out.symm
    clear hf
    go_wp2
    go_roundw
    case rel=>exact ⟨k+1,by omega,by go_num,by rw [HS1.out]; exact HF.out,HB2.out⟩
    case measure=>simp [intOf]; omega
   ·have HF:Hid (f x=true):=by rw [←hf]; exact HFB.out.symm
    clear hf
    go_wp2
    go_ret
    refine ⟨⟨_,rfl,by omega,by omega,?_⟩,HB2.out⟩
    rw [decide_eq_true (by omega)]
    exact (List.any_eq_true.2 ⟨x,HME.out,HF.out⟩).symm
  ·have HTK:Hid (m.take k=m):=List.take_of_length_le (by omega)
   go_wp2
   go_ret
   exact ⟨⟨-1,rfl,by omega,by omega,by rw [←HTK.out,HN.out]; rfl⟩,HB.out⟩
set_option maxRecDepth 100000 in
theorem hasM_any (B:Nat) (f:List Int→Bool) (m:List (List Int)) (v:Value) (p1 p2:Addr) (w:World) (hv:Mat B 22 3 w v m)
  (hc:∀r∈m,∀(W:World) (rv:Value),Below w.heap.size w W→Sl B 3 W rv (ints r)→Calls Tryz.prog 102 #[rv,.pointer (some p1),.pointer (some p2)] W fun e w'=>e=.returned (.bool (f r))∧Below w.heap.size w w') :
  Calls Tryz.prog 22 #[v,.func (.func 102) #[] #[.pointer (some p1),.pointer (some p2)]] w fun e w'=>e=.returned (.bool (m.any f))∧Below w.heap.size w w':=by
 have HI:Hid (Calls Tryz.prog 41 #[v,.func (.func 102) #[] #[.pointer (some p1),.pointer (some p2)]] w fun e w'=>(∃z,e=.returned (.int .i64 z)∧-1≤z∧z < m.length∧decide (0≤z)=m.any f)∧Below w.heap.size w w'):=idxM_any B f m v p1 p2 w hv hc
 obtain ⟨ao,cap,hvv,hlc,hcm⟩:=mat_open hv
 subst hvv
 clear hv hc
 generalize m.any f=R at *
 go_enter Tryz.func22,Tryz.ntmps22
 go_wp2_with fail
 refine HI.out.mono ?_
 rintro e w' ⟨⟨z,rfl,hz1,hz2,hz3⟩,hb⟩
 have HZ:Hid (decide (0≤z)=R):=hz3
 have HB:Hid (Below w.heap.size w w'):=hb
 clear hz3 hb
 go_wp2
 go_ret
 exact ⟨ret_bool HZ.out,HB.out⟩
set_option maxRecDepth 100000 in
set_option maxHeartbeats 800000 in
theorem idxC_any (B:Nat) (f:List Int→Bool) (m:List (List Int)) (v:Value) (p1 p2:Addr) (w:World) (hv:Mat B 22 3 w v m)
  (hc:∀r∈m,∀(W:World) (rv:Value),Below w.heap.size w W→Sl B 3 W rv (ints r)→Calls Tryz.prog 85 #[rv,.pointer (some p1),.pointer (some p2)] W fun e w'=>e=.returned (.bool (f r))∧Below w.heap.size w w') :
  Calls Tryz.prog 41 #[v,.func (.func 85) #[] #[.pointer (some p1),.pointer (some p2)]] w fun e w'=>(∃z,e=.returned (.int .i64 z)∧-1≤z∧z < m.length∧decide (0≤z)=m.any f)∧Below w.heap.size w w':=by
 obtain ⟨ao,cap,hvv,hlc,hcm⟩:=mat_open hv
 subst hvv
 have HV:Hid (Mat B 22 3 w (.slice ao m.length cap) m):=hv
 have HC:Hid (∀r∈m,∀(W:World) (rv:Value),Below w.heap.size w W→Sl B 3 W rv (ints r)→Calls Tryz.prog 85 #[rv,.pointer (some p1),.pointer (some p2)] W fun e w'=>e=.returned (.bool (f r))∧Below w.heap.size w w'):=hc
 clear hv hc
 go_enter Tryz.func41,Tryz.ntmps41
 go_wp2
 go_loopw [8] (fun i wr=>∃k:Nat,k≤m.length∧i=.int .i64 k∧(m.take k).any f=false∧Below w.heap.size w wr) (fun i _=>m.length-(intOf i).toNat)
 case atStart=>exact ⟨0,Nat.zero_le _,rfl,by simp,Below.refl _ _⟩
 case round=>
  obtain ⟨k,hk,rfl,hno,hb⟩:=hrel
  have HN:Hid ((m.take k).any f=false):=hno
  have HB:Hid (Below w.heap.size w wr):=hb
  clear hno hb
  by_cases hlt:k < m.length
  ·obtain ⟨b1,o,cp,r1,hs,hc1,hcc,hr1⟩:=mat_cell (HV.out.below HB.out (Nat.le_refl _)) hlt
   simp only [Value.slice.injEq] at hs
   obtain ⟨rfl,hxx,rfl⟩:=hs
   clear hxx
   have HS1:Hid ((m.take (k+1)).any f=f (m.getD k [])):=anyR_snoc (p:=f) hlt HN.out
   have HME:Hid (m.getD k []∈m):=by
    show _∈_
    simp [hlt]
   have HCA:Hid (Calls Tryz.prog 85 #[r1,.pointer (some p1),.pointer (some p2)] wr fun e w'=>e=.returned (.bool (f (m.getD k [])))∧Below w.heap.size w w'):=HC.out _ HME.out wr r1 HB.out hr1
   clear hr1
   generalize m.getD k []=x at *
   obtain ⟨fb,hfb⟩:∃fb,fb=f x:=⟨_,rfl⟩
   have HFB:Hid (fb=f x):=hfb
   rw [←hfb] at HCA
   clear hfb
   go_wp2_with fail
   refine HCA.out.mono ?_
   rintro e w2 ⟨rfl,hb2⟩
   have HB2:Hid (Below w.heap.size w w2):=hb2
   clear hb2 HCA
   cases hf:fb
   ·have HF:Hid (f x=false):=by rw [←hf]; exact HFB.out.symm
    clear hf
    go_wp2
    go_roundw
    case rel=>exact ⟨k+1,by omega,by go_num,by rw [HS1.out]; exact HF.out,HB2.out⟩
    case measure=>simp [intOf]; omega
   ·have HF:Hid (f x=true):=by rw [←hf]; exact HFB.out.symm
    clear hf
    go_wp2
    go_ret
    refine ⟨⟨_,rfl,by omega,by omega,?_⟩,HB2.out⟩
    rw [decide_eq_true (by omega)]
    exact (List.any_eq_true.2 ⟨x,HME.out,HF.out⟩).symm
  ·have HTK:Hid (m.take k=m):=List.take_of_length_le (by omega)
   go_wp2
   go_ret
   exact ⟨⟨-1,rfl,by omega,by omega,by rw [←HTK.out,HN.out]; rfl⟩,HB.out⟩
set_option maxRecDepth 100000 in
theorem hasC_any (B:Nat) (f:List Int→Bool) (m:List (List Int)) (v:Value) (p1 p2:Addr) (w:World) (hv:Mat B 22 3 w v m)
  (hc:∀r∈m,∀(W:World) (rv:Value),Below w.heap.size w W→Sl B 3 W rv (ints r)→Calls Tryz.prog 85 #[rv,.pointer (some p1),.pointer (some p2)] W fun e w'=>e=.returned (.bool (f r))∧Below w.heap.size w w') :
  Calls Tryz.prog 22 #[v,.func (.func 85) #[] #[.pointer (some p1),.pointer (some p2)]] w fun e w'=>e=.returned (.bool (m.any f))∧Below w.heap.size w w':=by
 have HI:Hid (Calls Tryz.prog 41 #[v,.func (.func 85) #[] #[.pointer (some p1),.pointer (some p2)]] w fun e w'=>(∃z,e=.returned (.int .i64 z)∧-1≤z∧z < m.length∧decide (0≤z)=m.any f)∧Below w.heap.size w w'):=idxC_any B f m v p1 p2 w hv hc
 obtain ⟨ao,cap,hvv,hlc,hcm⟩:=mat_open hv
 subst hvv
 clear hv hc
 generalize m.any f=R at *
 go_enter Tryz.func22,Tryz.ntmps22
 go_wp2_with fail
 refine HI.out.mono ?_
 rintro e w' ⟨⟨z,rfl,hz1,hz2,hz3⟩,hb⟩
 have HZ:Hid (decide (0≤z)=R):=hz3
 have HB:Hid (Below w.heap.size w w'):=hb
 clear hz3 hb
 go_wp2
 go_ret
 exact ⟨ret_bool HZ.out,HB.out⟩
end Go.Proofs.YtdanomklbiidaaaGreatDoor

namespace Go.Proofs.YtdanomklbiidaaaGreatDoor
open Go.RowKit
attribute [local go_sem ↓] Go.wp_at_zero Go.wp_at_succ
def apt (x y r:List Int):Bool:=decide (agn r x=0) && !decide (agn r y=0)
set_option maxRecDepth 100000 in
set_option maxHeartbeats 400000 in
theorem meets_any (B:Nat) (m:List (List Int)) (x y:List Int) (v xv yv:Value) (w:World) (hv:Mat B 22 3 w v m) (hx:Sl B 3 w xv (ints x)) (hy:Sl B 3 w yv (ints y))
  (hr:∀r∈m,r.length=x.length+1∧r.length=y.length+1∧Sm (r.take x.length) x∧Sm (r.take y.length) y) :
  Calls Tryz.prog 86 #[v,xv,yv] w fun e w'=>e=.returned (.bool (!m.any (apt x y)))∧Below w.heap.size w w':=by
 obtain ⟨xo,xc,hxe,_,_⟩:=sl_open hx
 obtain ⟨yo,yc,hye,_,_⟩:=sl_open hy
 obtain ⟨xl,hxl⟩:∃xl,xl=x.length:=⟨_,rfl⟩
 obtain ⟨yl,hyl⟩:∃yl,yl=y.length:=⟨_,rfl⟩
 rw [←hxl] at hxe
 rw [←hyl] at hye
 clear hxl hyl
 have HV:Hid (Mat B 22 3 w v m):=hv
 have HX:Hid (Sl B 3 w xv (ints x)):=hx
 have HY:Hid (Sl B 3 w yv (ints y)):=hy
 have HR:Hid (∀r∈m,r.length=x.length+1∧r.length=y.length+1∧Sm (r.take x.length) x∧Sm (r.take y.length) y):=hr
 clear hv hx hy hr
 have HKEY:Hid (∀W:World,Below w.heap.size w W→∀g1 g2:Nat,W.cell? ⟨g1,0,none⟩=some xv→W.cell? ⟨g2,0,none⟩=some yv→Calls Tryz.prog 22 #[v,.func (.func 102) #[] #[.pointer (some ⟨g1,0,none⟩),.pointer (some ⟨g2,0,none⟩)]] W fun e w'=>e=.returned (.bool (m.any (apt x y)))∧Below w.heap.size w w'):=fun W hW g1 g2 h1 h2=>
  (hasM_any B (apt x y) m v _ _ W (HV.out.below hW (Nat.le_refl _)) fun r hr W' rv hW' hrv=>by
   obtain ⟨a1,a2,a3,a4⟩:=HR.out r hr
   exact (meet1_any B r x y rv xv yv g1 g2 W' hrv ((hW'.cell (lt_of_cell h1)).trans h1) ((hW'.cell (lt_of_cell h2)).trans h2) (HX.out.below (hW.trans (hW'.mono hW.size)) (Nat.le_refl _)) (HY.out.below (hW.trans (hW'.mono hW.size)) (Nat.le_refl _)) a1 a2 a3 a4).mono fun e w' h=>⟨h.1,hW'.trans (h.2.mono hW'.size)⟩).mono fun e w' h=>⟨h.1,hW.trans (h.2.mono hW.size)⟩
 subst hxe hye
 go_enter Tryz.func86,Tryz.ntmps86
 go_wp2_with fail
 refine (HKEY.out ((w.alloc (.cells #[.slice xo xl xc] 22)).alloc (.cells #[.slice yo yl yc] 22)) (((Below.refl _ _).alloc (Nat.le_refl _) _).alloc (by simp) _) w.heap.size (w.heap.size+1) (by simp) (by simp)).mono ?_
 rintro e w2 ⟨rfl,hb2⟩
 have HB2:Hid (Below w.heap.size w w2):=hb2
 clear hb2
 obtain ⟨R,hR⟩:∃R,R=m.any (apt x y):=⟨_,rfl⟩
 rw [←hR]
 have HR2:Hid (R=m.any (apt x y)):=hR
 clear hR
 cases R
 all_goals
  go_wp2
  go_ret
  exact ⟨by rw [←HR2.out]; rfl,HB2.out⟩
end Go.Proofs.YtdanomklbiidaaaGreatDoor

namespace Go.Proofs.YtdanomklbiidaaaGreatDoor
open Go.RowKit
attribute [local go_sem ↓] Go.wp_at_zero Go.wp_at_succ
set_option maxRecDepth 100000 in
set_option maxHeartbeats 400000 in
theorem other_any (B:Nat) (m:List (List Int)) (x y:List Int) (u xv mv:Value) (g1 g2:Nat) (w:World) (hu:Sl B 3 w u (ints y)) (h1:w.cell? ⟨g1,0,none⟩=some xv) (h2:w.cell? ⟨g2,0,none⟩=some mv) (hx:Sl B 3 w xv (ints x)) (hm:Mat B 22 3 w mv m)
  (hr:∀r∈m,r.length=x.length+1∧r.length=y.length+1∧Sm (r.take x.length) x∧Sm (r.take y.length) y) :
  Calls Tryz.prog 85 #[u,.pointer (some ⟨g1,0,none⟩),.pointer (some ⟨g2,0,none⟩)] w fun e w'=>e=.returned (.bool (!(x == y) && !m.any (apt x y)))∧Below w.heap.size w w':=by
 have HM:Hid (∀W,Below w.heap.size w W→Calls Tryz.prog 86 #[mv,xv,u] W fun e w'=>e=.returned (.bool (!m.any (apt x y)))∧Below w.heap.size w w'):=fun W hW=>
  (meets_any B m x y mv xv u W (hm.below hW (Nat.le_refl _)) (hx.below hW (Nat.le_refl _)) (hu.below hW (Nat.le_refl _)) hr).mono fun e w' h=>⟨h.1,hW.trans (h.2.mono hW.size)⟩
 have HK:Hid (∀W,Below w.heap.size w W→W.cell? ⟨g1,0,none⟩=some xv∧W.cell? ⟨g2,0,none⟩=some mv):=fun W hW=>⟨(hW.cell (lt_of_cell h1)).trans h1,(hW.cell (lt_of_cell h2)).trans h2⟩
 have HX:Hid (Sl B 3 w xv (ints x)):=hx
 have HU:Hid (Sl B 3 w u (ints y)):=hu
 clear hu hx hm hr
 go_enter Tryz.func85,Tryz.ntmps85
 go_wp2_with fail
 refine (equal_any B x y xv u w HX.out HU.out).mono ?_
 rintro e w1 ⟨rfl,nn,rfl⟩
 have HB1:Hid (Below w.heap.size w (w.drewN nn)):=⟨rfl,rfl,rfl,Nat.le_refl _,fun _ _=>rfl⟩
 have k1:=(HK.out _ HB1.out).1
 have k2:=(HK.out _ HB1.out).2
 generalize w.drewN nn=w1 at *
 obtain ⟨e1,he1⟩:∃e1,e1=(x == y):=⟨_,rfl⟩
 have HE:Hid (e1=(x == y)):=he1
 rw [←he1]
 clear he1 h1 h2
 obtain ⟨R,hR⟩:∃R,R=m.any (apt x y):=⟨_,rfl⟩
 have HR2:Hid (R=m.any (apt x y)):=hR
 rw [←hR] at HM
 clear hR
 cases e1
 ·go_wp2_with fail
  refine (HM.out w1 HB1.out).mono ?_
  rintro e w2 ⟨rfl,hb2⟩
  have HB2:Hid (Below w.heap.size w w2):=hb2
  clear hb2 HM
  cases R
  all_goals
   go_wp2
   go_ret
   exact ⟨by rw [←HE.out,←HR2.out]; rfl,HB2.out⟩
 ·go_wp2
  go_ret
  exact ⟨by rw [←HE.out]; rfl,HB1.out⟩
def twin (m P:List (List Int)) (x:List Int):Bool:=P.any fun y=>!(x == y) && !m.any (apt x y)
set_option maxRecDepth 100000 in
set_option maxHeartbeats 400000 in
theorem twin_any (B:Nat) (m P:List (List Int)) (x:List Int) (u pv mv:Value) (g1 g2:Nat) (w:World) (hu:Sl B 3 w u (ints x)) (h1:w.cell? ⟨g1,0,none⟩=some pv) (h2:w.cell? ⟨g2,0,none⟩=some mv) (hp:Mat B 22 3 w pv P) (hm:Mat B 22 3 w mv m)
  (hr:∀r∈m,∀y∈P,r.length=x.length+1∧r.length=y.length+1∧Sm (r.take x.length) x∧Sm (r.take y.length) y) :
  Calls Tryz.prog 84 #[u,.pointer (some ⟨g1,0,none⟩),.pointer (some ⟨g2,0,none⟩)] w fun e w'=>e=.returned (.bool (twin m P x))∧Below w.heap.size w w':=by
 obtain ⟨xo,xc,hxe,_,_⟩:=sl_open hu
 obtain ⟨xl,hxl⟩:∃xl,xl=x.length:=⟨_,rfl⟩
 rw [←hxl] at hxe
 clear hxl
 have HKEY:Hid (∀W:World,Below w.heap.size w W→∀g0:Nat,W.cell? ⟨g0,0,none⟩=some u→Calls Tryz.prog 22 #[pv,.func (.func 85) #[] #[.pointer (some ⟨g0,0,none⟩),.pointer (some ⟨g2,0,none⟩)]] W fun e w'=>e=.returned (.bool (twin m P x))∧Below w.heap.size w w'):=fun W hW g0 h0=>
  (hasC_any B (fun y=>!(x == y) && !m.any (apt x y)) P pv _ _ W (hp.below hW (Nat.le_refl _)) fun y hy W' rv hW' hrv=>by
   have hww:=hW.trans (hW'.mono hW.size)
   exact (other_any B m x y rv u mv g0 g2 W' hrv ((hW'.cell (lt_of_cell h0)).trans h0) ((hww.cell (lt_of_cell h2)).trans h2) (hu.below hww (Nat.le_refl _)) (hm.below hww (Nat.le_refl _)) (fun r hr'=>hr r hr' y hy)).mono fun e w' h=>⟨h.1,hW'.trans (h.2.mono hW'.size)⟩).mono fun e w' h=>⟨h.1,hW.trans (h.2.mono hW.size)⟩
 have c1:(w.alloc (.cells #[u] 22)).cell? ⟨g1,0,none⟩=some pv:=by
  have hb:Below w.heap.size w (w.alloc (.cells #[u] 22)):=(Below.refl _ _).alloc (Nat.le_refl _) _
  exact (hb.cell (lt_of_cell h1)).trans h1
 have c2:(w.alloc (.cells #[u] 22)).cell? ⟨g2,0,none⟩=some mv:=by
  have hb:Below w.heap.size w (w.alloc (.cells #[u] 22)):=(Below.refl _ _).alloc (Nat.le_refl _) _
  exact (hb.cell (lt_of_cell h2)).trans h2
 clear hu hp hm hr h1 h2
 subst hxe
 go_enter Tryz.func84,Tryz.ntmps84
 go_wp2_with fail
 refine (HKEY.out (w.alloc (.cells #[.slice xo xl xc] 22)) ((Below.refl _ _).alloc (Nat.le_refl _) _) w.heap.size (by simp)).mono ?_
 rintro e w2 ⟨rfl,hb2⟩
 have HB2:Hid (Below w.heap.size w w2):=hb2
 clear hb2
 go_wp2
 go_ret
 exact ⟨rfl,HB2.out⟩
end Go.Proofs.YtdanomklbiidaaaGreatDoor

namespace Go.Proofs.YtdanomklbiidaaaGreatDoor
open Lin
theorem agn_zero {d:Nat} {r x:List Int} (hr:r.length=d+1) (hx:x.length=d):agn r x=0↔r.getD d 0=dot d (V r) (V x):=by
 have e:dotL (r.take d) x=dot d (V r) (V x):=by
  rw [dotL_eq (d:=d) (by rw [List.length_take]; omega) x]
  exact dot_congr (fun i hi=>V_take hi) (fun _ _=>rfl)
 unfold agn
 rw [hx,e]
 generalize dot d (V r) (V x)=a
 generalize r.getD d 0=b
 unfold cmpI
 repeat' split
 all_goals omega
theorem twin_iff {d:Nat} {m P:List (List Int)} {x:List Int} (hm:∀r∈m,r.length=d+1) (hP:∀y∈P,y.length=d) (hx:x.length=d) :
  twin m P x=false↔∀y∈P,y≠x→∃r∈m,r.getD d 0=dot d (V r) (V x)∧r.getD d 0≠dot d (V r) (V y):=by
 unfold twin
 rw [List.any_eq_false]
 constructor
 ·intro h y hy hne
  have h1:=h y hy
  have h2:(x == y)=false:=by simpa using fun h:x=y=>hne h.symm
  rw [h2] at h1
  simp only [Bool.not_false,Bool.true_and,Bool.not_eq_true',Bool.not_eq_false] at h1
  obtain ⟨r,hr,ha⟩:=List.any_eq_true.1 h1
  unfold apt at ha
  simp only [Bool.and_eq_true,decide_eq_true_eq,Bool.not_eq_true',decide_eq_false_iff_not] at ha
  exact ⟨r,hr,(agn_zero (hm r hr) hx).1 ha.1,fun e=>ha.2 ((agn_zero (hm r hr) (hP y hy)).2 e)⟩
 ·intro h y hy hc
  simp only [Bool.and_eq_true,Bool.not_eq_true',beq_eq_false_iff_ne] at hc
  obtain ⟨r,hr,h1,h2⟩:=h y hy (fun e=>hc.1 e.symm)
  have:=List.any_eq_false.1 hc.2 r hr
  apply this
  unfold apt
  simp only [Bool.and_eq_true,decide_eq_true_eq,Bool.not_eq_true',decide_eq_false_iff_not]
  exact ⟨(agn_zero (hm r hr) hx).2 h1,fun e=>h2 ((agn_zero (hm r hr) (hP y hy)).1 e)⟩
end Go.Proofs.YtdanomklbiidaaaGreatDoor

namespace Go.Proofs.YtdanomklbiidaaaGreatDoor
open Go.RowKit
attribute [local go_sem ↓] Go.wp_at_zero Go.wp_at_succ
theorem filt_snoc {m:List (List Int)} {f:List Int→Bool} {j:Nat} (hj:j < m.length):((m.take (j+1)).filter fun r=>!f r)=((m.take j).filter fun r=>!f r) ++ (if f (m.getD j [])=true then [] else [m.getD j []]):=by
 have e:m.getD j []=m[j]:=by simp [hj]
 rw [List.take_succ_eq_append_getElem hj,List.filter_append,e]
 cases hf:f m[j] <;> simp [hf]
set_option maxRecDepth 100000 in
set_option maxHeartbeats 800000 in
theorem idxD_any (B:Nat) (f:List Int→Bool) (m:List (List Int)) (v:Value) (p1 p2:Addr) (w:World) (hv:Mat B 22 3 w v m) (hBw:B≤w.heap.size)
  (hc:∀r∈m,∀(W:World) (rv:Value),Below B w W→Sl B 3 W rv (ints r)→Calls Tryz.prog 84 #[rv,.pointer (some p1),.pointer (some p2)] W fun e w'=>e=.returned (.bool (f r))∧Below W.heap.size W w') :
  Calls Tryz.prog 41 #[v,.func (.func 84) #[] #[.pointer (some p1),.pointer (some p2)]] w fun e w'=>(∃z,e=.returned (.int .i64 z)∧((z=-1∧m.any f=false)∨∃k:Nat,z=k∧k < m.length∧(m.take k).any f=false∧f (m.getD k [])=true))∧Below w.heap.size w w':=by
 obtain ⟨ao,cap,hvv,hlc,hcm⟩:=mat_open hv
 subst hvv
 have HV:Hid (Mat B 22 3 w (.slice ao m.length cap) m):=hv
 have HC:Hid (∀r∈m,∀(W:World) (rv:Value),Below w.heap.size w W→Sl B 3 W rv (ints r)→Calls Tryz.prog 84 #[rv,.pointer (some p1),.pointer (some p2)] W fun e w'=>e=.returned (.bool (f r))∧Below w.heap.size w w'):=fun r hr W rv hW hs=>(hc r hr W rv (hW.mono hBw) hs).mono fun e w' h=>⟨h.1,hW.trans (h.2.mono hW.size)⟩
 clear hv hc hBw
 go_enter Tryz.func41,Tryz.ntmps41
 go_wp2
 go_loopw [8] (fun i wr=>∃k:Nat,k≤m.length∧i=.int .i64 k∧(m.take k).any f=false∧Below w.heap.size w wr) (fun i _=>m.length-(intOf i).toNat)
 case atStart=>exact ⟨0,Nat.zero_le _,rfl,by simp,Below.refl _ _⟩
 case round=>
  obtain ⟨k,hk,rfl,hno,hb⟩:=hrel
  have HN:Hid ((m.take k).any f=false):=hno
  have HB:Hid (Below w.heap.size w wr):=hb
  clear hno hb
  by_cases hlt:k < m.length
  ·obtain ⟨b1,o,cp,r1,hs,hc1,hcc,hr1⟩:=mat_cell (HV.out.below HB.out (Nat.le_refl _)) hlt
   simp only [Value.slice.injEq] at hs
   obtain ⟨rfl,hxx,rfl⟩:=hs
   clear hxx
   have HS1:Hid ((m.take (k+1)).any f=f (m.getD k [])):=anyR_snoc (p:=f) hlt HN.out
   have HME:Hid (m.getD k []∈m):=by
    show _∈_
    simp [hlt]
   have HCA:Hid (Calls Tryz.prog 84 #[r1,.pointer (some p1),.pointer (some p2)] wr fun e w'=>e=.returned (.bool (f (m.getD k [])))∧Below w.heap.size w w'):=HC.out _ HME.out wr r1 HB.out hr1
   clear hr1
   obtain ⟨x,hx⟩:∃x,x=m.getD k []:=⟨_,rfl⟩
   have HX:Hid (x=m.getD k []):=hx
   rw [←hx] at HS1 HME HCA
   clear hx
   obtain ⟨fb,hfb⟩:∃fb,fb=f x:=⟨_,rfl⟩
   have HFB:Hid (fb=f x):=hfb
   rw [←hfb] at HCA
   clear hfb
   go_wp2_with fail
   refine HCA.out.mono ?_
   rintro e w2 ⟨rfl,hb2⟩
   have HB2:Hid (Below w.heap.size w w2):=hb2
   clear hb2 HCA
   cases hf:fb
   ·have HF:Hid (f x=false):=by rw [←hf]; exact HFB.out.symm
    clear hf
    go_wp2
    go_roundw
    case rel=>exact ⟨k+1,by omega,by go_num,by rw [HS1.out]; exact HF.out,HB2.out⟩
    case measure=>simp [intOf]; omega
   ·have HF:Hid (f x=true):=by rw [←hf]; exact HFB.out.symm
    clear hf
    go_wp2
    go_ret
    exact ⟨⟨_,rfl,Or.inr ⟨k,rfl,hlt,HN.out,by rw [←HX.out]; exact HF.out⟩⟩,HB2.out⟩
  ·have HTK:Hid (m.take k=m):=List.take_of_length_le (by omega)
   go_wp2
   go_ret
   exact ⟨⟨-1,rfl,Or.inl ⟨rfl,by rw [←HTK.out,HN.out]⟩⟩,HB.out⟩
end Go.Proofs.YtdanomklbiidaaaGreatDoor

namespace Go.Proofs.YtdanomklbiidaaaGreatDoor
open Lin
theorem over_zero {d:Nat} {r x:List Int} (hr:r.length=d+1) (hx:x.length=d):overL r x=0↔r.getD d 0=dot d (V r) (V x):=by
 have e:dotL (r.take d) x=dot d (V r) (V x):=by
  rw [dotL_eq (d:=d) (by rw [List.length_take]; omega) x]
  exact dot_congr (fun i hi=>V_take hi) (fun _ _=>rfl)
 unfold overL
 rw [hx,e]
 omega
theorem corner_rank {d:Nat} {P P' s:List (List Int)} (hg:Good d P) (hP:∀r,r∈P'↔r∈P) (hs:∀r,r∈s↔r∈rowsD P d) {x:List Int} (hx:x∈P) :
  (pickL d (onL d s x)).length=d↔∀v:Nat→Int,(∀r∈rowsC P' [] d P',r.getD d 0=dot d (V r) (V x)→dot d (V r) v=0)→∀i,i < d→v i=0:=by
 have hgr:=greedy_full (pick_greedy d (onL d s x))
 rw [fm_length] at hgr
 rw [hgr]
 have hxl:=(hg.box x hx).1
 have hrw:∀r,r∈s↔r∈rowsC P' [] d P':=fun r=>by rw [hs r,mem_rowsD]; exact (rows_same hg hP r).symm
 have hlen:∀r∈s,r.length=d+1:=fun r hr=>(rowsD_facts hg.box hg.d1 (by have:=hg.d4; omega) r ((hs r).1 hr)).len
 have key:∀v:Nat→Int,(∀r∈fm (onL d s x),dot d r v=0)↔∀r∈rowsC P' [] d P',r.getD d 0=dot d (V r) (V x)→dot d (V r) v=0:=by
  intro v
  constructor
  ·intro h r hr he
   have hrs:=(hrw r).2 hr
   have h1:=h (V (r.take d)) (mem_fm.2 ⟨r.take d,List.mem_map.2 ⟨r,List.mem_filter.2 ⟨hrs,decide_eq_true ((over_zero (hlen r hrs) hxl).2 he)⟩,rfl⟩,rfl⟩)
   rw [←h1]
   exact dot_congr (fun i hi=>(V_take hi).symm) (fun _ _=>rfl)
  ·intro h q hq
   obtain ⟨l,hl,rfl⟩:=mem_fm.1 hq
   obtain ⟨r,hr,rfl⟩:=List.mem_map.1 hl
   obtain ⟨hrs,ho⟩:=List.mem_filter.1 hr
   have h1:=h r ((hrw r).1 hrs) ((over_zero (hlen r hrs) hxl).1 (of_decide_eq_true ho))
   rw [←h1]
   exact dot_congr (fun i hi=>V_take hi) (fun _ _=>rfl)
 exact ⟨fun h v hv=>h v ((key v).2 hv),fun h v hv=>h v ((key v).1 hv)⟩
end Go.Proofs.YtdanomklbiidaaaGreatDoor

namespace Go.Proofs.YtdanomklbiidaaaGreatDoor
open Go.RowKit
attribute [local go_sem ↓] Go.wp_at_zero Go.wp_at_succ
theorem sm_of {d:Nat} {P:List (List Int)} {r x:List Int} (hr:RowOf d P r) (hd:d≤4) (hx:x.length=d) (hb:∀z∈x,z.natAbs≤1000):r.length=x.length+1∧Sm (r.take x.length) x:=
 ⟨by rw [hx]; exact hr.len,by rw [List.length_take]; have:=hr.len; omega,by rw [List.length_take]; have:=hr.len; omega,by rw [hx]; exact hr.bd,hb⟩
end Go.Proofs.YtdanomklbiidaaaGreatDoor
