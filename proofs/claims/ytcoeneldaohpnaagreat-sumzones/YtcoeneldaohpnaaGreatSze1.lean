import Derived.Test.YtcoeneldaohpnaaGreatMgBC
namespace Go.Proofs.YtcoeneldaohpnaaGreat
open Go.RowKit Lin
def zrE (n:Nat) (r:List Int):Int:=if r.length≠n then 3 else if r.any (farB · 20) then 4 else 0
def zrsE (n:Nat):List (List Int)→Int
 | []=>0
 | r :: t=>if zrE n r≠0 then zrE n r else zrsE n t
def zwE (dm:Int) (ways:List (List Int)):Int:=if dm < 1∨3 < dm then 1 else if ways.length < 1∨5 < ways.length then 2 else if zrsE dm.toNat ways≠0 then zrsE dm.toNat ways else zE dm.toNat ways
theorem zrsE_at {n:Nat} : ∀{rows:List (List Int)} {k:Nat},k < rows.length→(∀j,j < k→zrE n (rows.getD j [])=0)→zrE n (rows.getD k [])≠0→zrsE n rows=zrE n (rows.getD k [])
 | [],_,hk,_,_=>by simp at hk
 | r :: t,0,_,_,hn=>by simp only [List.getD_cons_zero] at hn ⊢; rw [zrsE,if_pos hn]
 | r :: t,k+1,hk,h,hn=>by
  have h0:=h 0 (by omega)
  simp only [List.getD_cons_zero] at h0
  rw [zrsE,if_neg (by rw [h0]; simp)]
  simp only [List.getD_cons_succ] at hn ⊢
  exact zrsE_at (by simpa using hk) (fun j hj=>by have:=h (j+1) (by omega); simpa using this) hn
theorem zrsE_end {n:Nat} : ∀{rows:List (List Int)},(∀j,j < rows.length→zrE n (rows.getD j [])=0)→zrsE n rows=0
 | [],_=>rfl
 | r :: t,h=>by
  have h0:=h 0 (by simp)
  simp only [List.getD_cons_zero] at h0
  rw [zrsE,if_neg (by rw [h0]; simp)]
  exact zrsE_end (fun j hj=>by have:=h (j+1) (by simpa using hj); simpa using this)
theorem zrsE_mem {n:Nat} : ∀{rows:List (List Int)},zrsE n rows=0→∀r∈rows,zrE n r=0
 | [],_,r,hr=>by simp at hr
 | q :: t,h,r,hr=>by
  rw [zrsE] at h
  split at h
  ·rename_i h1; exact absurd h h1
  ·rename_i h1
   rcases List.mem_cons.1 hr with rfl | hr
   ·exact Classical.byContradiction h1
   ·exact zrsE_mem h r hr
theorem zrE_cases (n:Nat) (r:List Int):(r.length≠n∧zrE n r=3)∨(r.length=n∧r.any (farB · 20)=true∧zrE n r=4)∨(r.length=n∧r.any (farB · 20)=false∧zrE n r=0):=by
 unfold zrE
 by_cases h:r.length=n
 ·refine .inr ?_
  rw [if_neg (fun hn=>hn h)]
  cases hf:r.any (farB · 20) with
  | true=>exact .inl ⟨h,rfl,rfl⟩
  | false=>exact .inr ⟨h,rfl,by simp⟩
 ·exact .inl ⟨h,if_pos h⟩
theorem zrE_zero {n:Nat} {r:List Int} (h:zrE n r=0):r.length=n∧∀z∈r,-20≤z∧z≤20:=by
 rcases zrE_cases n r with ⟨_,e⟩ | ⟨_,_,e⟩ | ⟨h1,h2,_⟩
 ·rw [e] at h; cases h
 ·rw [e] at h; cases h
 ·refine ⟨h1,fun z hz=>?_⟩
  have:=(List.any_eq_false.1 h2) z hz
  simp only [farB,Bool.or_eq_true,decide_eq_true_eq,not_or] at this
  omega
theorem zw_wys {dm:Int} {ways:List (List Int)} (h1:¬(dm < 1∨3 < dm)) (h2:¬(ways.length < 1∨5 < ways.length)) (h3:zrsE dm.toNat ways=0):Wys dm.toNat ways:=
 ⟨by omega,by omega,by omega,by omega,fun r hr=>by
  obtain ⟨q1,q2⟩:=zrE_zero (zrsE_mem h3 r hr)
  exact ⟨q1,fun z hz=>by have:=q2 z hz; omega⟩⟩
section tiles
attribute [local go_sem] Oper.semAt_some
set_option maxRecDepth 100000 in
set_option maxHeartbeats 3200000 in
theorem tiles_err (dm:Int) (ways:List (List Int)) (v:Value) (w:World) {B0:Nat} (hv:Mat B0 26 3 w v ways) {E:Int} (hE:E≠0) (hC:∀X,Below w.heap.size w X→Calls Tryz.prog 11 #[.int .i64 dm,v] X fun e w'=>e=.returned (.int .i64 E)∧Below X.heap.size X w') :
  Calls Tryz.prog 10 #[.int .i64 dm,v] w fun e w'=>e=.returned (.tuple #[.slice none 0 0,.slice none 0 0,.int .i64 E])∧Below w.heap.size w w':=by
 obtain ⟨vo,vc,rfl,_,_⟩:=mat_open hv
 obtain ⟨W3,hW3⟩:∃W3,W3=((w.alloc (.cells #[.slice vo ways.length vc] 22)).alloc (.cells #[.slice none 0 0] 22)).alloc (.cells #[.slice none 0 0] 26):=⟨_,rfl⟩
 have hb3:Below w.heap.size w W3:=by rw [hW3]; exact (((Below.refl _ _).alloc (Nat.le_refl _) _).alloc (by simp) _).alloc (by simp; omega) _
 have hs3:W3.heap.size=w.heap.size+3:=by rw [hW3]; simp
 have n1:W3.heap[w.heap.size]?=some (.cells #[.slice vo ways.length vc] 22 (0,0)):=by
  rw [hW3]
  exact (Below.heap_alloc _ _ _ (by simp; omega)).trans ((Below.heap_alloc _ _ _ (by simp)).trans (heap_new _ _))
 have n2:W3.heap[w.heap.size+1]?=some (.cells #[.slice none 0 0] 22 (0,0)):=by
  rw [hW3]
  refine (Below.heap_alloc _ _ _ (by simp)).trans ?_
  have:=heap_new (w.alloc (.cells #[.slice vo ways.length vc] 22)) (.cells #[.slice none 0 0] 22)
  simpa using this
 have n3:W3.heap[w.heap.size+2]?=some (.cells #[.slice none 0 0] 26 (0,0)):=by
  rw [hW3]
  have:=heap_new ((w.alloc (.cells #[.slice vo ways.length vc] 22)).alloc (.cells #[.slice none 0 0] 22)) (.cells #[.slice none 0 0] 26)
  simpa using this
 have c1:W3.cell? ⟨w.heap.size,0,none⟩=some (.slice vo ways.length vc):=cell_of n1
 have K1:Hid (Calls Tryz.prog 11 #[.int .i64 dm,.slice vo ways.length vc] W3 fun e w'=>e=.returned (.int .i64 E)∧Below W3.heap.size W3 w'):=by
  exact hC W3 hb3
 have HB3:Hid (Below w.heap.size w W3):=hb3
 have hEb:(E != 0)=true:=by simp [hE]
 clear hv hC hE hb3 n1
 refine callsIn_wide (n:=0).1 ?_
 refine callsIn_of_wp_marks Tryz.func10 rfl trivial ?_ rfl
 simp only [Tryz.ntmps10,List.size_toArray,List.length_cons,List.length_nil,Nat.reduceAdd,Nat.reduceSub,Array.replicate_succ,Array.replicate_zero,List.push_toArray,List.append_toArray,List.nil_append,List.cons_append]
 rw [hW3] at c1
 gi_wp2_with fail
 rw [←hW3] at c1 ⊢
 clear hW3
 refine ⟨trivial,rfl,?_⟩
 gi_at_call 11
 refine (callsIn_wide.2 K1.out).mono ?_
 rintro e w1 ⟨rfl,hb1⟩
 have hs1:w.heap.size+3≤w1.heap.size:=by have:=hb1.size; omega
 have m2:w1.heap[w.heap.size+1]?=some (.cells #[.slice none 0 0] 22 (0,0)):=(hb1.block _ (by omega)).trans n2
 have m3:w1.heap[w.heap.size+2]?=some (.cells #[.slice none 0 0] 26 (0,0)):=(hb1.block _ (by omega)).trans n3
 have HM:Hid (w1.heap[w.heap.size+1]?=some (.cells #[.slice none 0 0] 22 (0,0))∧w1.heap[w.heap.size+2]?=some (.cells #[.slice none 0 0] 26 (0,0))):=⟨m2,m3⟩
 have HBW:Hid (Below w.heap.size w w1):=HB3.out.trans (hb1.mono (by omega))
 have p1:w1.cell? ⟨w.heap.size+1,0,none⟩=some (.slice none 0 0):=cell_of m2
 have p2:w1.cell? ⟨w.heap.size+1+1,0,none⟩=some (.slice none 0 0):=cell_of m3
 have p3:w1.frozen? ⟨w.heap.size+1,0,none⟩=false:=by simp [World.frozen?,m2]
 have p4:w1.frozen? ⟨w.heap.size+1+1,0,none⟩=false:=by
  show w1.frozen? ⟨w.heap.size+2,0,none⟩=false
  simp [World.frozen?,m3]
 clear hb1 K1 c1 m2 m3 n2 n3 hs3
 gi_wp2
 obtain ⟨W9,hW9⟩:∃W9,W9=(w1.setCell ⟨w.heap.size+1,0,none⟩ (.slice none 0 0)).setCell ⟨w.heap.size+1+1,0,none⟩ (.slice none 0 0):=⟨_,rfl⟩
 rw [←hW9]
 have q1:W9.heap[w.heap.size+1]?=some (.cells #[.slice none 0 0] 22 (0,0)):=by
  rw [hW9]
  exact (Below.heap_setCell _ _ _ _ (by show w.heap.size+1≠w.heap.size+1+1; omega)).trans (set_one HM.out.1)
 have q2:W9.heap[w.heap.size+2]?=some (.cells #[.slice none 0 0] 26 (0,0)):=by
  rw [hW9]
  exact set_one ((Below.heap_setCell _ _ _ _ (by show w.heap.size+2≠w.heap.size+1; omega)).trans HM.out.2)
 have q3:∀b,W9.heap[b]?=w1.heap[b]?:=fun b=>by
  by_cases e1:b=w.heap.size+1
  ·rw [e1,q1,HM.out.1]
  ·by_cases e2:b=w.heap.size+2
   ·rw [e2,q2,HM.out.2]
   ·rw [hW9]
    exact (Below.heap_setCell _ _ _ _ (by show b≠w.heap.size+1+1; omega)).trans (Below.heap_setCell _ _ _ _ e1)
 have q4:W9.heap.size=w1.heap.size:=by rw [hW9]; simp [World.setCell]
 have q5:W9.os=w1.os∧W9.tape=w1.tape∧W9.output=w1.output:=by rw [hW9]; exact ⟨rfl,rfl,rfl⟩
 clear hW9
 refine leaves_mks [] W9 (by simp) (fun r hr=>by simp at hr) (fun wF hc=>⟨.tuple #[.slice none 0 0,.slice none 0 0,.int .i64 E],?_,?_⟩)
 ·have r1:wF.cell? ⟨w.heap.size+1,0,none⟩=some (.slice none 0 0):=cell_of ((hc.block _ (by omega) (by simp)).trans q1)
  have r2:wF.cell? ⟨w.heap.size+1+1,0,none⟩=some (.slice none 0 0):=cell_of ((hc.block (w.heap.size+2) (by omega) (by simp)).trans q2)
  simp [results,Tryz.results10,go_sem,r1,r2]
 ·refine ⟨rfl,hc.os.trans (q5.1.trans HBW.out.os),hc.tape.trans (q5.2.1.trans HBW.out.tape),hc.output.trans (q5.2.2.trans HBW.out.output),by have:=hc.size; omega,fun b hb=>?_⟩
  exact (hc.block b (by omega) (by simp)).trans ((q3 b).trans (HBW.out.block b hb))
end tiles
attribute [local go_sem ↓] Go.wp_at_zero Go.wp_at_succ
set_option maxRecDepth 100000 in
attribute [local go_sem ↓] Go.wp_at_zero Go.wp_at_succ
set_option maxRecDepth 100000 in
set_option maxHeartbeats 1600000 in
theorem zcheck_out (dm:Int) (ways:List (List Int)) (v:Value) (w:World) {B0:Nat} (hv:Mat B0 26 3 w v ways) (h:dm < 1∨3 < dm) :
  Calls Tryz.prog 11 #[.int .i64 dm,v] w fun e w'=>e=.returned (.int .i64 1)∧Below w.heap.size w w':=by
 obtain ⟨ao,cap,hvv,hlc,hcm⟩:=mat_open hv
 subst hvv
 clear hv
 by_cases h1:dm < 1
 ·have h1':decide (dm < 1)=true:=decide_eq_true h1
  go_enter Tryz.func11,Tryz.ntmps11
  go_wp2
  go_ret
  exact ⟨rfl,Below.refl _ _⟩
 ·have h4:3 < dm:=by omega
  have h1':decide (dm < 1)=false:=decide_eq_false h1
  have h4':decide (3 < dm)=true:=decide_eq_true h4
  go_enter Tryz.func11,Tryz.ntmps11
  go_wp2
  go_ret
  exact ⟨rfl,Below.refl _ _⟩
set_option maxRecDepth 100000 in
set_option maxHeartbeats 1600000 in
theorem zcheck_many (d:Nat) (ways:List (List Int)) (v:Value) (w:World) {B0:Nat} (hv:Mat B0 26 3 w v ways) (h1:1≤d) (h3:d≤3) (h:ways.length < 1∨5 < ways.length) :
  Calls Tryz.prog 11 #[.int .i64 d,v] w fun e w'=>e=.returned (.int .i64 2)∧Below w.heap.size w w':=by
 obtain ⟨ao,cap,hvv,hlc,hcm⟩:=mat_open hv
 subst hvv
 clear hv
 have e1:decide ((d:Int) < 1)=false:=decide_eq_false (by omega)
 have e4:decide ((3:Int) < (d:Int))=false:=decide_eq_false (by omega)
 by_cases h5:ways.length < 1
 ·have e5:decide ((ways.length:Int) < 1)=true:=decide_eq_true (by omega)
  go_enter Tryz.func11,Tryz.ntmps11
  go_wp2
  go_ret
  exact ⟨rfl,Below.refl _ _⟩
 ·have e5:decide ((ways.length:Int) < 1)=false:=decide_eq_false (by omega)
  have e6:decide ((5:Int) < (ways.length:Int))=true:=decide_eq_true (by omega)
  go_enter Tryz.func11,Tryz.ntmps11
  go_wp2
  go_ret
  exact ⟨rfl,Below.refl _ _⟩
set_option maxRecDepth 100000 in
set_option maxHeartbeats 1600000 in
theorem zcheck_rows (d:Nat) (ways:List (List Int)) (v:Value) (w:World) {B0:Nat} (hv:Mat B0 26 3 w v ways) (hd1:1≤d) (hd3:d≤3) (hn1:1≤ways.length) (hn5:ways.length≤5) (hR0:zrsE d ways≠0) :
  Calls Tryz.prog 11 #[.int .i64 d,v] w fun e w'=>e=.returned (.int .i64 (zrsE d ways))∧Below w.heap.size w w':=by
 obtain ⟨ao,cap,hvv,hlc,hcm⟩:=mat_open hv
 subst hvv
 have e1:decide ((d:Int) < 1)=false:=decide_eq_false (by omega)
 have e4:decide ((3:Int) < (d:Int))=false:=decide_eq_false (by omega)
 have e5:decide ((ways.length:Int) < 1)=false:=decide_eq_false (by omega)
 have e6:decide ((5:Int) < (ways.length:Int))=false:=decide_eq_false (by omega)
 have HV:Hid (∀W',Below w.heap.size w W'→Mat B0 26 3 W' (.slice ao ways.length cap) ways):=fun W' hB=>hv.below hB (Nat.le_refl _)
 obtain ⟨R,hR⟩:∃R,R=zrsE d ways:=⟨_,rfl⟩
 rw [←hR]
 have HRR:Hid (R=zrsE d ways):=hR
 have HR0:Hid (R≠0):=by rw [hR]; exact hR0
 clear hv hR hR0
 go_enter Tryz.func11,Tryz.ntmps11
 go_wp2
 go_loopw [24] (fun i wr=>∃k:Nat,k≤ways.length∧i=.int .i64 k∧Below w.heap.size w wr∧∀j,j < k→zrE d (ways.getD j [])=0) (fun i _=>ways.length-(intOf i).toNat)
 case atStart=>exact ⟨0,Nat.zero_le _,rfl,Below.refl _ _,fun j hj=>by omega⟩
 case round=>
  obtain ⟨k,hk,rfl,hb,hz⟩:=hrel
  have HB:Hid (Below w.heap.size w wr):=hb
  have HZ:Hid (∀j,j < k→zrE d (ways.getD j [])=0):=hz
  clear hb hz
  by_cases hlt:k < ways.length
  ·obtain ⟨vb,voo,vcp,rv,hvs,_,hvcell,hrv⟩:=mat_cell (HV.out wr HB.out) hlt
   simp only [Value.slice.injEq] at hvs
   obtain ⟨rfl,_,rfl⟩:=hvs
   have HEQ:Hid (zrE d (ways.getD k [])≠0→R=zrE d (ways.getD k [])):=fun h=>HRR.out.trans (zrsE_at hlt HZ.out h)
   have HNX:Hid (zrE d (ways.getD k [])=0→∀j,j < k+1→zrE d (ways.getD j [])=0):=fun h j hj=>by
    rcases Nat.lt_or_eq_of_le (Nat.le_of_lt_succ hj) with h1 | rfl
    ·exact HZ.out j h1
    ·exact h
   have hkI:(0:Int)≤(k:Int):=by omega
   have hkJ:(k:Int) < (ways.length:Int):=by omega
   have HLC:Hid (Calls Tryz.prog 27 #[rv,.int .i64 (d:Int),.int .i64 20] wr fun e w'=>e=.returned (.int .i64 (zrE d (ways.getD k [])))∧Below wr.heap.size wr w'):=chkL_any _ d 20 (ways.getD k []) rv wr hrv (by decide) (by decide)
   clear hrv
   generalize zrE d (ways.getD k [])=E at *
   go_wp2_with fail
   refine HLC.out.mono ?_
   rintro e w1 ⟨rfl,hb1⟩
   have HB1:Hid (Below w.heap.size w w1):=HB.out.trans (hb1.mono HB.out.size)
   clear hb1 hvcell HLC
   by_cases hE:E=0
   ·subst hE
    have HN2:Hid (∀j,j < k+1→zrE d (ways.getD j [])=0):=HNX.out rfl
    clear HNX HEQ
    go_wp2
    go_roundw
    case rel=>exact ⟨k+1,by omega,by go_num,HB1.out,HN2.out⟩
    case measure=>simp [intOf]; omega
   ·have hEb:(E != 0)=true:=by simp [hE]
    obtain rfl:R=E:=HEQ.out hE
    clear HNX HEQ
    go_wp2
    go_ret
    exact ⟨rfl,HB1.out⟩
  ·exact absurd (HRR.out.trans (zrsE_end fun j hj=>HZ.out j (by omega))) HR0.out
theorem zcheck_all (dm:Int) (ways:List (List Int)) (v:Value) (w:World) {B0:Nat} (hv:Mat B0 26 3 w v ways) :
  Calls Tryz.prog 11 #[.int .i64 dm,v] w fun e w'=>e=.returned (.int .i64 (zwE dm ways))∧Below w.heap.size w w':=by
 unfold zwE
 by_cases h1:dm < 1∨3 < dm
 ·rw [if_pos h1]; exact zcheck_out dm ways v w hv h1
 ·rw [if_neg h1]
  obtain ⟨d,hd⟩:∃d:Nat,dm=d:=⟨dm.toNat,by omega⟩
  subst hd
  by_cases h2:ways.length < 1∨5 < ways.length
  ·rw [if_pos h2]; exact zcheck_many d ways v w hv (by omega) (by omega) h2
  ·rw [if_neg h2]
   by_cases h3:zrsE (d:Int).toNat ways≠0
   ·rw [if_pos h3]; exact zcheck_rows d ways v w hv (by omega) (by omega) (by omega) (by omega) h3
   ·rw [if_neg h3]
    exact zcheck_any d ways v w (hv.any (Nat.le_refl _)) (zw_wys h1 h2 (Classical.byContradiction h3))
set_option maxRecDepth 100000 in
set_option maxHeartbeats 1600000 in
theorem zmay_out (dm:Int) (ways:List (List Int)) (v:Value) (w:World) {B0:Nat} (hv:Mat B0 26 3 w v ways) (h:dm < 1∨3 < dm) :
  Calls Tryz.prog 5 #[.int .i64 dm,v] w fun e w'=>e=.returned (.int .i64 1)∧Below w.heap.size w w':=by
 obtain ⟨ao,cap,hvv,hlc,hcm⟩:=mat_open hv
 subst hvv
 clear hv
 by_cases h1:dm < 1
 ·have h1':decide (dm < 1)=true:=decide_eq_true h1
  go_enter Tryz.func5,Tryz.ntmps5
  go_wp2
  go_ret
  exact ⟨rfl,Below.refl _ _⟩
 ·have h4:3 < dm:=by omega
  have h1':decide (dm < 1)=false:=decide_eq_false h1
  have h4':decide (3 < dm)=true:=decide_eq_true h4
  go_enter Tryz.func5,Tryz.ntmps5
  go_wp2
  go_ret
  exact ⟨rfl,Below.refl _ _⟩
set_option maxRecDepth 100000 in
set_option maxHeartbeats 1600000 in
theorem zmay_many (d:Nat) (ways:List (List Int)) (v:Value) (w:World) {B0:Nat} (hv:Mat B0 26 3 w v ways) (h1:1≤d) (h3:d≤3) (h:ways.length < 1∨5 < ways.length) :
  Calls Tryz.prog 5 #[.int .i64 d,v] w fun e w'=>e=.returned (.int .i64 2)∧Below w.heap.size w w':=by
 obtain ⟨ao,cap,hvv,hlc,hcm⟩:=mat_open hv
 subst hvv
 clear hv
 have e1:decide ((d:Int) < 1)=false:=decide_eq_false (by omega)
 have e4:decide ((3:Int) < (d:Int))=false:=decide_eq_false (by omega)
 by_cases h5:ways.length < 1
 ·have e5:decide ((ways.length:Int) < 1)=true:=decide_eq_true (by omega)
  go_enter Tryz.func5,Tryz.ntmps5
  go_wp2
  go_ret
  exact ⟨rfl,Below.refl _ _⟩
 ·have e5:decide ((ways.length:Int) < 1)=false:=decide_eq_false (by omega)
  have e6:decide ((5:Int) < (ways.length:Int))=true:=decide_eq_true (by omega)
  go_enter Tryz.func5,Tryz.ntmps5
  go_wp2
  go_ret
  exact ⟨rfl,Below.refl _ _⟩
set_option maxRecDepth 100000 in
set_option maxHeartbeats 1600000 in
theorem zmay_rows (d:Nat) (ways:List (List Int)) (v:Value) (w:World) {B0:Nat} (hv:Mat B0 26 3 w v ways) (hd1:1≤d) (hd3:d≤3) (hn1:1≤ways.length) (hn5:ways.length≤5) (hR0:zrsE d ways≠0) :
  Calls Tryz.prog 5 #[.int .i64 d,v] w fun e w'=>e=.returned (.int .i64 (zrsE d ways))∧Below w.heap.size w w':=by
 obtain ⟨ao,cap,hvv,hlc,hcm⟩:=mat_open hv
 subst hvv
 have e1:decide ((d:Int) < 1)=false:=decide_eq_false (by omega)
 have e4:decide ((3:Int) < (d:Int))=false:=decide_eq_false (by omega)
 have e5:decide ((ways.length:Int) < 1)=false:=decide_eq_false (by omega)
 have e6:decide ((5:Int) < (ways.length:Int))=false:=decide_eq_false (by omega)
 have HV:Hid (∀W',Below w.heap.size w W'→Mat B0 26 3 W' (.slice ao ways.length cap) ways):=fun W' hB=>hv.below hB (Nat.le_refl _)
 obtain ⟨R,hR⟩:∃R,R=zrsE d ways:=⟨_,rfl⟩
 rw [←hR]
 have HRR:Hid (R=zrsE d ways):=hR
 have HR0:Hid (R≠0):=by rw [hR]; exact hR0
 clear hv hR hR0
 go_enter Tryz.func5,Tryz.ntmps5
 go_wp2
 go_loopw [5] (fun i wr=>∃k:Nat,k≤ways.length∧i=.int .i64 k∧Below w.heap.size w wr∧∀j,j < k→zrE d (ways.getD j [])=0) (fun i _=>ways.length-(intOf i).toNat)
 case atStart=>exact ⟨0,Nat.zero_le _,rfl,Below.refl _ _,fun j hj=>by omega⟩
 case round=>
  obtain ⟨k,hk,rfl,hb,hz⟩:=hrel
  have HB:Hid (Below w.heap.size w wr):=hb
  have HZ:Hid (∀j,j < k→zrE d (ways.getD j [])=0):=hz
  clear hb hz
  by_cases hlt:k < ways.length
  ·obtain ⟨vb,voo,vcp,rv,hvs,_,hvcell,hrv⟩:=mat_cell (HV.out wr HB.out) hlt
   simp only [Value.slice.injEq] at hvs
   obtain ⟨rfl,_,rfl⟩:=hvs
   have HEQ:Hid (zrE d (ways.getD k [])≠0→R=zrE d (ways.getD k [])):=fun h=>HRR.out.trans (zrsE_at hlt HZ.out h)
   have HNX:Hid (zrE d (ways.getD k [])=0→∀j,j < k+1→zrE d (ways.getD j [])=0):=fun h j hj=>by
    rcases Nat.lt_or_eq_of_le (Nat.le_of_lt_succ hj) with h1 | rfl
    ·exact HZ.out j h1
    ·exact h
   have hkI:(0:Int)≤(k:Int):=by omega
   have hkJ:(k:Int) < (ways.length:Int):=by omega
   obtain ⟨uo,uc,huv,_,_⟩:=sl_open hrv
   have HFA:Hid (Calls Tryz.prog 14 #[rv,.int .i64 20] wr fun e w'=>e=.returned (.bool ((ways.getD k []).any (farB · 20)))∧w'=wr):=farAny_any _ (ways.getD k []) rv 20 wr hrv (by decide) (by decide)
   obtain ⟨rl,hrl⟩:∃rl,rl=(ways.getD k []).length:=⟨_,rfl⟩
   have HRE:Hid ((rl≠d∧zrE d (ways.getD k [])=3)∨(rl=d∧(ways.getD k []).any (farB · 20)=true∧zrE d (ways.getD k [])=4)∨(rl=d∧(ways.getD k []).any (farB · 20)=false∧zrE d (ways.getD k [])=0)):=by
    rw [hrl]; exact zrE_cases _ _
   rw [←hrl] at huv
   subst huv
   clear hrv hrl
   generalize (ways.getD k []).any (farB · 20)=fb at *
   rcases HRE.out with ⟨hl,hE⟩ | ⟨rfl,rfl,hE⟩ | ⟨rfl,rfl,hE⟩
   ·have hdd:((rl:Int) != (d:Int))=true:=by rw [bne_iff_ne]; omega
    obtain rfl:R=3:=(HEQ.out (by rw [hE]; decide)).trans hE
    clear HNX HEQ HRE hE
    go_wp2
    go_ret
    exact ⟨rfl,HB.out⟩
   ·have hdd:((rl:Int) != (rl:Int))=false:=by simp
    obtain rfl:R=4:=(HEQ.out (by rw [hE]; decide)).trans hE
    clear HNX HEQ HRE hE
    go_wp2_with fail
    refine HFA.out.mono ?_
    rintro e w1 ⟨rfl,hw1⟩
    rw [hw1]
    clear hw1
    go_wp2
    go_ret
    exact ⟨rfl,HB.out⟩
   ·have hdd:((rl:Int) != (rl:Int))=false:=by simp
    have HN2:Hid (∀j,j < k+1→zrE rl (ways.getD j [])=0):=HNX.out hE
    clear HNX HEQ HRE hE
    go_wp2_with fail
    refine HFA.out.mono ?_
    rintro e w1 ⟨rfl,hw1⟩
    rw [hw1]
    clear hw1
    go_wp2
    go_roundw
    case rel=>exact ⟨k+1,by omega,by go_num,HB.out,HN2.out⟩
    case measure=>simp [intOf]; omega
  ·exact absurd (HRR.out.trans (zrsE_end fun j hj=>HZ.out j (by omega))) HR0.out
theorem zmay_all (dm:Int) (ways:List (List Int)) (v:Value) (w:World) {B0:Nat} (hv:Mat B0 26 3 w v ways) :
  Calls Tryz.prog 5 #[.int .i64 dm,v] w fun e w'=>e=.returned (.int .i64 (zwE dm ways))∧Below w.heap.size w w':=by
 unfold zwE
 by_cases h1:dm < 1∨3 < dm
 ·rw [if_pos h1]; exact zmay_out dm ways v w hv h1
 ·rw [if_neg h1]
  obtain ⟨d,hd⟩:∃d:Nat,dm=d:=⟨dm.toNat,by omega⟩
  subst hd
  by_cases h2:ways.length < 1∨5 < ways.length
  ·rw [if_pos h2]; exact zmay_many d ways v w hv (by omega) (by omega) h2
  ·rw [if_neg h2]
   by_cases h3:zrsE (d:Int).toNat ways≠0
   ·rw [if_pos h3]; exact zmay_rows d ways v w hv (by omega) (by omega) (by omega) (by omega) h3
   ·rw [if_neg h3]
    exact zmay_any d ways v w (hv.any (Nat.le_refl _)) (zw_wys h1 h2 (Classical.byContradiction h3))
set_option maxRecDepth 100000 in
set_option maxHeartbeats 1600000 in
theorem zone_err (dm:Int) (ways:List (List Int)) (v:Value) (w:World) {B0:Nat} (hv:Mat B0 26 3 w v ways) {E:Int} (hE:E≠0) (hC:∀X,Below w.heap.size w X→Calls Tryz.prog 11 #[.int .i64 dm,v] X fun e w'=>e=.returned (.int .i64 E)∧Below X.heap.size X w') :
  Calls Tryz.prog 9 #[.int .i64 dm,v] w fun e w'=>e=.returned (.tuple #[.slice none 0 0,.int .i64 E])∧Below w.heap.size w w':=by
 obtain ⟨vo,vc,rfl,_,_⟩:=mat_open hv
 have K1:Hid (Calls Tryz.prog 11 #[.int .i64 dm,.slice vo ways.length vc] w fun e w'=>e=.returned (.int .i64 E)∧Below w.heap.size w w'):=hC w (Below.refl _ _)
 have hEb:(E != 0)=true:=by simp [hE]
 clear hv hC hE
 go_enter Tryz.func9,Tryz.ntmps9
 go_wp2_with fail
 refine K1.out.mono ?_
 rintro e w1 ⟨rfl,hb1⟩
 have HB1:Hid (Below w.heap.size w w1):=hb1
 clear K1 hb1
 go_wp2
 go_ret2
 exact ⟨rfl,HB1.out⟩
set_option maxRecDepth 100000 in
theorem lists_err {E:Int} (hE:E≠0) (w:World):Calls Tryz.prog 12 #[.slice none 0 0,.int .i64 E,.slice none 0 0,.int .i64 E] w fun x w'=>x=.returned (.bool true)∧w'=w:=by
 have h1:(E != E)=false:=by simp
 have h2:(E != 0)=true:=by simp [hE]
 have h3:(E == E)=true:=by simp
 have h4:(E == 0)=false:=by simp [hE]
 go_enter Tryz.func12,Tryz.ntmps12
 go_wp2
 go_ret
 exact ⟨rfl,rfl⟩
set_option maxRecDepth 100000 in
theorem list_err {E:Int} (hE:E≠0) (w:World):Calls Tryz.prog 13 #[.slice none 0 0,.int .i64 E,.slice none 0 0,.int .i64 E] w fun x w'=>x=.returned (.bool true)∧w'=w:=by
 have h1:(E != E)=false:=by simp
 have h2:(E != 0)=true:=by simp [hE]
 have h3:(E == E)=true:=by simp
 have h4:(E == 0)=false:=by simp [hE]
 go_enter Tryz.func13,Tryz.ntmps13
 go_wp2
 go_ret
 exact ⟨rfl,rfl⟩
set_option maxRecDepth 100000 in
set_option maxHeartbeats 3200000 in
theorem zones_err (dm:Int) (ways:List (List Int)) (v:Value) (w:World) {B0:Nat} (hv:Mat B0 26 3 w v ways) (hE:zwE dm ways≠0) :
  Calls Tryz.prog 3 #[.int .i64 dm,v] w fun e w'=>e=.returned (.bool true)∧Below w.heap.size w w':=by
 obtain ⟨vo,vc,rfl,_,_⟩:=mat_open hv
 have hM:∀X,Below w.heap.size w X→Mat B0 26 3 X (.slice vo ways.length vc) ways:=fun X hX=>hv.below hX (Nat.le_refl _)
 have K1:Hid (Calls Tryz.prog 4 #[.slice vo ways.length vc] w fun e w'=>∃b,e=.returned (.bool b)∧(b=false→ways.length≤300)∧w'=w):=heavy_any B0 ways _ w hv
 have K2:Hid (Calls Tryz.prog 5 #[.int .i64 dm,.slice vo ways.length vc] w fun e w'=>e=.returned (.int .i64 (zwE dm ways))∧Below w.heap.size w w'):=zmay_all dm ways _ w hv
 have K5:Hid (∀X,Below w.heap.size w X→Calls Tryz.prog 11 #[.int .i64 dm,.slice vo ways.length vc] X fun e w'=>e=.returned (.int .i64 (zwE dm ways))∧Below X.heap.size X w'):=fun X hX=>zcheck_all dm ways _ X (hM X hX)
 have K3:Hid (∀X,Below w.heap.size w X→Calls Tryz.prog 9 #[.int .i64 dm,.slice vo ways.length vc] X fun e w'=>e=.returned (.tuple #[.slice none 0 0,.int .i64 (zwE dm ways)])∧Below X.heap.size X w'):=fun X hX=>zone_err dm ways _ X (hM X hX) hE fun Y hY=>K5.out Y (hX.trans (hY.mono hX.size))
 have K4:Hid (∀X,Below w.heap.size w X→Calls Tryz.prog 10 #[.int .i64 dm,.slice vo ways.length vc] X fun e w'=>e=.returned (.tuple #[.slice none 0 0,.slice none 0 0,.int .i64 (zwE dm ways)])∧Below X.heap.size X w'):=fun X hX=>tiles_err dm ways _ X (hM X hX) hE fun Y hY=>K5.out Y (hX.trans (hY.mono hX.size))
 generalize zwE dm ways=E at *
 have HE:Hid (E≠0):=hE
 have hEb:(E != 0)=true:=by simp [hE]
 have hEc:(E == 0)=false:=by simp [hE]
 have hEd:(E == E)=true:=by simp
 clear hv hE hM
 go_enter Tryz.func3,Tryz.ntmps3
 go_wp2_with fail
 refine K1.out.mono ?_
 rintro e w1 ⟨b,rfl,-,rfl⟩
 clear K1
 cases b
 case true=>
  clear K2 K3 K4 K5
  go_wp2
  go_ret
  exact ⟨rfl,Below.refl _ _⟩
 case false=>
 go_wp2_with fail
 refine K2.out.mono ?_
 rintro e w2 ⟨rfl,hb2⟩
 have HK3:=K3.out w2 hb2
 have HB2:Hid (Below w1.heap.size w1 w2):=hb2
 clear K2 K3 hb2
 go_wp2_with fail
 refine HK3.mono ?_
 rintro e w3 ⟨rfl,hb3⟩
 have HB3:Hid (Below w1.heap.size w1 w3):=HB2.out.trans (hb3.mono HB2.out.size)
 have HK4:=K4.out w3 HB3.out
 clear hb3 HK3 K4
 go_wp2_with fail
 refine HK4.mono ?_
 rintro e w4 ⟨rfl,hb4⟩
 have HB4:Hid (Below w1.heap.size w1 w4):=HB3.out.trans (hb4.mono HB3.out.size)
 have HK5:=K5.out w4 HB4.out
 clear hb4 HK4 K5
 go_wp2_with fail
 refine HK5.mono ?_
 rintro e w5 ⟨rfl,hb5⟩
 have HB5:Hid (Below w1.heap.size w1 w5):=HB4.out.trans (hb5.mono HB4.out.size)
 clear hb5 HK5
 go_wp2_with fail
 refine (lists_err HE.out w5).mono ?_
 rintro e w6 ⟨rfl,rfl⟩
 go_wp2_with fail
 refine (lists_err HE.out w6).mono ?_
 rintro e w7 ⟨rfl,rfl⟩
 go_wp2_with fail
 refine (list_err HE.out w7).mono ?_
 rintro e w8 ⟨rfl,rfl⟩
 go_wp2
 go_ret
 exact ⟨rfl,HB5.out⟩
theorem sumZones_any {B0:Nat} (dm:Int) (ways:List (List Int)) (v:Value) (w:World) (hv:Mat B0 26 3 w v ways) :
  Calls Tryz.prog 3 #[.int .i64 dm,v] w fun e w'=>e=.returned (.bool true)∧Below w.heap.size w w':=by
 by_cases hE:zwE dm ways=0
 ·unfold zwE at hE
  by_cases h1:dm < 1∨3 < dm
  ·rw [if_pos h1] at hE; cases hE
  ·rw [if_neg h1] at hE
   by_cases h2:ways.length < 1∨5 < ways.length
   ·rw [if_pos h2] at hE; cases hE
   ·rw [if_neg h2] at hE
    by_cases h3:zrsE dm.toNat ways=0
    ·rw [if_neg (by rw [h3]; simp)] at hE
     have:=zones_any dm.toNat ways v w (hv.any (Nat.le_refl _)) (zw_wys h1 h2 h3) hE
     rw [show ((dm.toNat:Nat):Int)=dm by omega] at this
     exact this
    ·rw [if_pos h3] at hE
     exact absurd hE h3
 ·exact zones_err dm ways v w hv hE
end Go.Proofs.YtcoeneldaohpnaaGreat
