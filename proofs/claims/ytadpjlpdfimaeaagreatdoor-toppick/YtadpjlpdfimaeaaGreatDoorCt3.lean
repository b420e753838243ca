import Derived.Test.YtadpjlpdfimaeaaGreatDoorMgBA
import Derived.Test.YtadpjlpdfimaeaaGreatDoorMgAR
import Derived.Test.YtadpjlpdfimaeaaGreatDoorMgAI
namespace Go.Proofs.YtadpjlpdfimaeaaGreatDoor
open Go.RowKit
attribute [local go_sem ↓] Go.wp_at_zero Go.wp_at_succ
def lef (rows:List (List Int)) (rooms:List Int) (dir:Nat) (v:Int):List Int:=(List.range rows.length).map fun j=>rooms.getD j 0-(rows.getD j []).getD dir 0*v
theorem lef_len (rows:List (List Int)) (rooms:List Int) (dir:Nat) (v:Int):(lef rows rooms dir v).length=rows.length:=by simp [lef]
theorem lef_get (rows:List (List Int)) (rooms:List Int) (dir:Nat) (v:Int) (j:Nat) (hj:j < rows.length):(lef rows rooms dir v).getD j 0=rooms.getD j 0-(rows.getD j []).getD dir 0*v:=by simp [lef,hj]
def thr (k:Nat) (lo hi:List Int) (rows:List (List Int)):Nat→Nat→List Int→Int
 | 0,dir,rooms=>(endsOf ⟨lok k lo dir,lok k hi dir,true⟩ (prs rows rooms dir)).cnt
 | rem+1,dir,rooms=>isum (irange (lok k lo dir) (lok k hi dir)) fun v=>thr k lo hi rows rem (dir+1) (lef rows rooms dir v)
theorem irange_len (a b:Int):(irange a b).length=(b-a+1).toNat:=by simp [irange]
theorem irange_get (a b:Int) (i:Nat) (h:i < (b-a+1).toNat):(irange a b).getD i 0=a+i:=by simp [irange,h]
theorem isum_bd {f:Int→Int} {B:Int} : ∀l:List Int,(∀v∈l,0≤f v∧f v≤B)→0≤isum l f∧isum l f≤l.length*B
 | [],_=>by simp [isum]
 | a :: l,h=>by
  have ih:=isum_bd l fun v hv=>h v (List.mem_cons_of_mem _ hv)
  have ha:=h a (by simp)
  have e:isum (a :: l) f=f a+isum l f:=by simp [isum]
  rw [e]
  have e2:((a :: l).length:Int)*B=B+l.length*B:=by simp; grind
  rw [e2]
  omega
theorem cnt_bd (e:Ends) {n:Int} (h0:0≤n) (h:e.to-e.fr+1≤n):0≤e.cnt∧e.cnt≤n:=by
 unfold Ends.cnt
 split <;> omega
theorem thr_bd {d k:Nat} {lo hi:List Int} {rows:List (List Int)} (hf:Fld d rows lo hi k):∀(rem dir:Nat) (rooms:List Int),dir+rem+1=d→0≤thr k lo hi rows rem dir rooms∧thr k lo hi rows rem dir rooms≤20001 ^ (rem+1)
 | 0,dir,rooms,hd=>by
  have h1:=lok_bd hf.kb (hf.lob dir (by omega))
  have h2:=lok_bd hf.kb (hf.hib dir (by omega))
  have h3:=endsOf_in (prs rows rooms dir) ⟨lok k lo dir,lok k hi dir,true⟩
  have h4:lok k lo dir≤(endsOf ⟨lok k lo dir,lok k hi dir,true⟩ (prs rows rooms dir)).fr:=h3.1
  have h5:(endsOf ⟨lok k lo dir,lok k hi dir,true⟩ (prs rows rooms dir)).to≤lok k hi dir:=h3.2.1
  have:=cnt_bd (endsOf ⟨lok k lo dir,lok k hi dir,true⟩ (prs rows rooms dir)) (n:=20001) (by decide) (by omega)
  simpa [thr] using this
 | rem+1,dir,rooms,hd=>by
  have h1:=lok_bd hf.kb (hf.lob dir (by omega))
  have h2:=lok_bd hf.kb (hf.hib dir (by omega))
  have h:=isum_bd (f:=fun v=>thr k lo hi rows rem (dir+1) (lef rows rooms dir v)) (B:=20001 ^ (rem+1)) (irange (lok k lo dir) (lok k hi dir)) (fun v _=>thr_bd hf rem (dir+1) _ (by omega))
  have e:thr k lo hi rows (rem+1) dir rooms=isum (irange (lok k lo dir) (lok k hi dir)) fun v=>thr k lo hi rows rem (dir+1) (lef rows rooms dir v):=rfl
  rw [e]
  refine ⟨h.1,Int.le_trans h.2 ?_⟩
  have hl:((irange (lok k lo dir) (lok k hi dir)).length:Int)≤20001:=by rw [irange_len]; omega
  have hp:(0:Int)≤20001 ^ (rem+1):=Int.pow_nonneg (by decide)
  have:=Int.mul_le_mul_of_nonneg_right hl hp
  rw [Int.pow_succ 20001 (rem+1),Int.mul_comm (20001 ^ (rem+1))]
  exact this
theorem thr_small {d k:Nat} {lo hi:List Int} {rows:List (List Int)} (hf:Fld d rows lo hi k) (hd4:d≤4) (rem dir:Nat) (rooms:List Int) (hd:dir+rem+1=d):0≤thr k lo hi rows rem dir rooms∧thr k lo hi rows rem dir rooms≤200000000000000000:=by
 have h:=thr_bd hf rem dir rooms hd
 refine ⟨h.1,Int.le_trans h.2 ?_⟩
 have:rem=0∨rem=1∨rem=2∨rem=3:=by omega
 rcases this with rfl | rfl | rfl | rfl <;> decide
theorem isum_take_le {l:List Int} {f:Int→Int} (h:∀v,0≤f v) (q:Nat):0≤isum (l.take q) f∧isum (l.take q) f≤isum l f:=by
 have nn:∀l:List Int,0≤isum l f:=by
  intro l
  induction l with
  | nil=>simp [isum]
  | cons a l ih=>
   have e:isum (a :: l) f=f a+isum l f:=by simp [isum]
   rw [e]
   have:=h a
   omega
 refine ⟨nn _,?_⟩
 have e:isum l f=isum (l.take q) f+isum (l.drop q) f:=by
  unfold isum
  rw [←List.sum_append,←List.map_append,List.take_append_drop]
 rw [e]
 have:=nn (l.drop q)
 omega
theorem isum_take_succ (l:List Int) (f:Int→Int) (i:Nat) (h:i < l.length):isum (l.take (i+1)) f=isum (l.take i) f+f (l.getD i 0):=by
 unfold isum
 rw [List.take_succ_eq_append_getElem h,List.map_append,List.sum_append]
 simp [h]
set_option maxRecDepth 100000 in
set_option maxHeartbeats 1600000 in
theorem through_any (d k:Nat) (rows:List (List Int)) (lo hi:List Int) (rv lv mv:Value) (hf:Fld d rows lo hi k) (hd4:d≤4):∀(rem dir:Nat),dir+rem+1=d→∀(rooms:List Int) (ov:Value) (w:World),
  Mat w.heap.size 22 3 w rv rows→Sl w.heap.size 3 w lv (ints lo)→Sl w.heap.size 3 w mv (ints hi)→Sl w.heap.size 3 w ov (ints rooms)→rooms.length=rows.length→(∀z∈rooms,z.natAbs≤100000000000+dir*10000000000)→
  Calls Tryz.prog 52 #[.agg #[rv,lv,mv],.int .i64 k,.int .i64 dir,ov] w fun e w'=>e=.returned (.int .i64 (thr k lo hi rows rem dir rooms))∧Below w.heap.size w w':=by
 intro rem
 induction rem with
 | zero=>
  intro dir hd rooms ov w hr hl hm ho hrl hrb
  have HAL:Hid (∀W,Below w.heap.size w W→Calls Tryz.prog 74 #[.agg #[rv,lv,mv],.int .i64 k,.int .i64 dir,ov] W fun e w'=>e=.returned (.int .i64 (thr k lo hi rows 0 dir rooms))∧Below w.heap.size w w'):=fun W hW=>
   (along_any w.heap.size d dir k rows lo hi rooms rv lv mv ov W (hr.below hW (Nat.le_refl _)) (hl.below hW (Nat.le_refl _)) (hm.below hW (Nat.le_refl _)) (ho.below hW (Nat.le_refl _)) hf (by omega) hrl (fun z hz=>by have:=hrb z hz; omega)).mono fun e w' ⟨e1,e2⟩=>⟨e1,hW.trans (e2.mono hW.size)⟩
  obtain ⟨ro,rc,hrv,hrc1,hrc2⟩:=mat_open hr
  obtain ⟨lo',lc,hlv,_,_⟩:=sl_open hl
  obtain ⟨mo,mc,hmv,_,_⟩:=sl_open hm
  obtain ⟨oo,oc,hov,_,_⟩:=sl_open ho
  rw [hf.lol] at hlv
  rw [hf.hil] at hmv
  rw [hrl] at hov
  subst hrv hlv hmv hov
  obtain ⟨W,hW⟩:∃W,W=w.alloc (.cells #[.slice ro rows.length rc,.slice lo' d lc,.slice mo d mc] 53):=⟨_,rfl⟩
  have hbw:Below w.heap.size w W:=by rw [hW]; exact (Below.refl _ _).alloc (Nat.le_refl _) _
  have HW:Hid (Below w.heap.size w W):=hbw
  have hde:((dir:Int) == (d:Int)-1)=true:=by simp; omega
  generalize thr k lo hi rows 0 dir rooms=R at *
  clear hr hl hm ho hrl hrb hd hbw
  go_enter Tryz.func52,Tryz.ntmps52
  go_wp2_with fail
  rw [←hW]
  clear hW
  refine (HAL.out W HW.out).mono ?_
  rintro e w2 ⟨rfl,hb2⟩
  have HB2:Hid (Below w.heap.size w w2):=hb2
  clear hb2
  go_wp2
  go_ret
  exact ⟨rfl,HB2.out⟩
 | succ rem ih=>
  intro dir hd rooms ov w hr hl hm ho hrl hrb
  have hdir:dir < d:=by omega
  have HIH:Hid (∀(rooms':List Int) (ov':Value) (W:World),Mat W.heap.size 22 3 W rv rows→Sl W.heap.size 3 W lv (ints lo)→Sl W.heap.size 3 W mv (ints hi)→Sl W.heap.size 3 W ov' (ints rooms')→rooms'.length=rows.length→(∀z∈rooms',z.natAbs≤100000000000+(dir+1)*10000000000)→Calls Tryz.prog 52 #[.agg #[rv,lv,mv],.int .i64 k,.int .i64 ((dir+1:Nat):Int),ov'] W fun e w'=>e=.returned (.int .i64 (thr k lo hi rows rem (dir+1) rooms'))∧Below W.heap.size W w'):=fun rooms' ov' W=>ih (dir+1) (by omega) rooms' ov' W
  have HTS:Hid (∀rooms',0≤thr k lo hi rows rem (dir+1) rooms'∧thr k lo hi rows rem (dir+1) rooms'≤200000000000000000):=fun rooms'=>thr_small hf hd4 rem (dir+1) rooms' (by omega)
  have HTE:Hid (thr k lo hi rows (rem+1) dir rooms=isum (irange (lok k lo dir) (lok k hi dir)) fun v=>thr k lo hi rows rem (dir+1) (lef rows rooms dir v)):=rfl
  have HTB:Hid (0≤thr k lo hi rows (rem+1) dir rooms∧thr k lo hi rows (rem+1) dir rooms≤200000000000000000):=thr_small hf hd4 (rem+1) dir rooms hd
  have HF:Hid (Fld d rows lo hi k):=hf
  have HRL:Hid (rooms.length=rows.length):=hrl
  have HRB:Hid (∀z∈rooms,z.natAbs≤100000000000+dir*10000000000):=hrb
  clear ih
  obtain ⟨ro,rc,hrv,hrc1,hrc2⟩:=mat_open hr
  obtain ⟨lo',lc,hlv,_,_⟩:=sl_open hl
  obtain ⟨mo,mc,hmv,_,_⟩:=sl_open hm
  obtain ⟨oo,oc,hov,_,_⟩:=sl_open ho
  rw [hf.lol] at hlv
  rw [hf.hil] at hmv
  rw [hrl] at hov
  subst hrv hlv hmv hov
  obtain ⟨W,hW⟩:∃W,W=w.alloc (.cells #[.slice ro rows.length rc,.slice lo' d lc,.slice mo d mc] 53):=⟨_,rfl⟩
  have hbw:Below w.heap.size w W:=by rw [hW]; exact (Below.refl _ _).alloc (Nat.le_refl _) _
  have HW:Hid (Below w.heap.size w W):=hbw
  have c0:W.cell? ⟨w.heap.size,0,none⟩=some (.slice ro rows.length rc):=by rw [hW]; simp
  have c1:W.cell? ⟨w.heap.size,1,none⟩=some (.slice lo' d lc):=by rw [hW]; simp
  have c2:W.cell? ⟨w.heap.size,2,none⟩=some (.slice mo d mc):=by rw [hW]; simp
  have HR:Hid (Mat W.heap.size 22 3 W (.slice ro rows.length rc) rows):=(hr.below hbw (Nat.le_refl _)).any (Nat.le_refl _)
  have HL:Hid (Sl W.heap.size 3 W (.slice lo' d lc) (ints lo)):=(hl.below hbw (Nat.le_refl _)).any (Nat.le_refl _)
  have HM:Hid (Sl W.heap.size 3 W (.slice mo d mc) (ints hi)):=(hm.below hbw (Nat.le_refl _)).any (Nat.le_refl _)
  have HO:Hid (Sl W.heap.size 3 W (.slice oo rows.length oc) (ints rooms)):=(ho.below hbw (Nat.le_refl _)).any (Nat.le_refl _)
  obtain ⟨lb,lx,lc2,hs1,_,l1⟩:=sl_cell HL.out (k:=dir) (by rw [hf.lol]; exact hdir)
  simp only [Value.slice.injEq] at hs1
  obtain ⟨rfl,hxx,rfl⟩:=hs1
  clear hxx
  obtain ⟨mb,mx,mc2,hs2,_,m1⟩:=sl_cell HM.out (k:=dir) (by rw [hf.hil]; exact hdir)
  simp only [Value.slice.injEq] at hs2
  obtain ⟨rfl,hxx,rfl⟩:=hs2
  clear hxx
  have hlb:=lok_bd hf.kb (hf.lob dir hdir)
  have hmb:=lok_bd hf.kb (hf.hib dir hdir)
  have hlw:wrap64 ((k:Int)*lo.getD dir 0)=lok k lo dir:=by unfold lok at hlb ⊢; exact IntWalk.wrap64_in _ ⟨by omega,by omega⟩
  have hmw:wrap64 ((k:Int)*hi.getD dir 0)=lok k hi dir:=by unfold lok at hmb ⊢; exact IntWalk.wrap64_in _ ⟨by omega,by omega⟩
  generalize lok k lo dir=L at *
  generalize lok k hi dir=M at *
  generalize lo.getD dir 0=lo0 at *
  generalize hi.getD dir 0=hi0 at *
  generalize thr k lo hi rows (rem+1) dir rooms=TT at *
  have hdI:(dir:Int) < (d:Int):=by omega
  have hdI0:(0:Int)≤(dir:Int):=by omega
  have hde:((dir:Int) == (d:Int)-1)=false:=by simp; omega
  obtain ⟨m,hme⟩:∃m,m=rows.length:=⟨_,rfl⟩
  have HME:Hid (m=rows.length):=hme
  have hm2:m≤20000000:=by rw [hme]; exact hf.nr
  have HKC:Hid (∀W',Below W.heap.size W W'→W'.cell? ⟨w.heap.size,0,none⟩=some (.slice ro m rc)∧W'.cell? ⟨w.heap.size,1,none⟩=some (.slice (some ⟨lb,lx,none⟩) d lc)∧W'.cell? ⟨w.heap.size,2,none⟩=some (.slice (some ⟨mb,mx,none⟩) d mc)):=fun W' h=>by
   rw [hme]
   exact ⟨(h.cell (lt_of_cell c0)).trans c0,(h.cell (lt_of_cell c1)).trans c1,(h.cell (lt_of_cell c2)).trans c2⟩
  have hmk:=run_make_row' (P:=Tryz.prog) 22 3 (.int .i64 0) 8 Tryz.underlying22 Tryz.info3 rfl .i64 .i64 m (by omega) (by omega)
  rw [←hme] at hW c0 HR HO hrc1 ⊢
  obtain ⟨N,hN⟩:∃N,N=w.heap.size+1:=⟨_,rfl⟩
  have hNW:W.heap.size=N:=by rw [hN,hW]; simp
  have HNW:Hid (W.heap.size=N):=hNW
  have HNw:Hid (N=w.heap.size+1):=hN
  obtain ⟨Wm,hWm⟩:∃Wm,Wm=W.alloc (.cells (madeCells #[.int .i64 0] m) 3):=⟨_,rfl⟩
  have HRM:Hid (Wm.rowIs N 3 m (fun _=>.int .i64 0)∧Below N W Wm):=by
   rw [hWm,←hNW]
   exact ⟨World.rowIs_made W (.int .i64 0) m 3,(Below.refl _ _).alloc (Nat.le_refl _) _⟩
  have l1w:(w.alloc (.cells #[.slice ro m rc,.slice (some ⟨lb,lx,none⟩) d lc,.slice (some ⟨mb,mx,none⟩) d mc] 53)).cell? ⟨lb,lx+dir,none⟩=some (.int .i64 lo0):=by rw [←hW]; exact l1
  have c2w:((w.alloc (.cells #[.slice ro m rc,.slice (some ⟨lb,lx,none⟩) d lc,.slice (some ⟨mb,mx,none⟩) d mc] 53)).alloc (.cells (madeCells #[.int .i64 0] m) 3)).cell? ⟨w.heap.size,2,none⟩=some (.slice (some ⟨mb,mx,none⟩) d mc):=by rw [←hW,←hWm]; rw [←hNW] at HRM; exact (HRM.out.2.cell (lt_of_cell c2)).trans c2
  have m1w:((w.alloc (.cells #[.slice ro m rc,.slice (some ⟨lb,lx,none⟩) d lc,.slice (some ⟨mb,mx,none⟩) d mc] 53)).alloc (.cells (madeCells #[.int .i64 0] m) 3)).cell? ⟨mb,mx+dir,none⟩=some (.int .i64 hi0):=by rw [←hW,←hWm]; rw [←hNW] at HRM; exact (HRM.out.2.cell (lt_of_cell m1)).trans m1
  have HLW:Hid (wrap64 ((k:Int)*lo0)=L):=hlw
  have HMW:Hid (wrap64 ((k:Int)*hi0)=M):=hmw
  clear hr hl hm ho hbw hrl hrb hme hd hNW
  go_enter Tryz.func52,Tryz.ntmps52
  go_wp2
  rw [←hW,←hWm,←hN]
  simp only [HLW.out,HMW.out]
  clear hW hWm hN l1w c2w m1w c0 c1 c2 l1 m1 hlw hmw hmk
  obtain ⟨n,hn⟩:∃n:Nat,n=(M-L+1).toNat:=⟨_,rfl⟩
  have hn2:n≤20001:=by omega
  have HNN:Hid (n=(M-L+1).toNat):=hn
  obtain ⟨f,hfe⟩:∃f:Int→Int,f=fun v=>thr k lo hi rows rem (dir+1) (lef rows rooms dir v):=⟨_,rfl⟩
  have HFE:Hid (∀v,f v=thr k lo hi rows rem (dir+1) (lef rows rooms dir v)):=fun v=>by rw [hfe]
  have HTT:Hid (TT=isum (irange L M) f):=by rw [hfe]; exact HTE.out
  have HFB:Hid (∀q,0≤isum ((irange L M).take q) f∧isum ((irange L M).take q) f≤200000000000000000):=fun q=>by
   have h:=isum_take_le (l:=irange L M) (f:=f) (fun v=>by rw [HFE.out v]; exact (HTS.out _).1) q
   rw [←HTT.out] at h
   exact ⟨h.1,Int.le_trans h.2 HTB.out.2⟩
  clear hfe hn
  go_loopw [10,46] (fun s i wr=>∃(q:Nat) (F:Nat→Value),q≤n∧i=.int .i64 q∧s=.int .i64 (isum ((irange L M).take q) f)∧wr.rowIs N 3 m F∧Below N W wr) (fun _ i _=>n-(intOf i).toNat)
  case atStart=>exact ⟨0,_,Nat.zero_le _,rfl,rfl,HRM.out.1,HRM.out.2⟩
  case round=>
   obtain ⟨q,F,hq,rfl,rfl,hrow,hbel⟩:=hrel
   rename World=>wa
   have HRW:Hid (wa.rowIs N 3 m F):=hrow
   have HB:Hid (Below N W wa):=hbel
   clear hrow hbel
   by_cases hql:q < n
   ·have hqI:(q:Int) < M-L+1:=by have:=HNN.out; omega
    have HSN:Hid (isum ((irange L M).take (q+1)) f=isum ((irange L M).take q) f+f (L+q)):=by
     have h1:=HNN.out
     have h:=isum_take_succ (irange L M) f q (by rw [irange_len]; omega)
     rw [irange_get L M q (by omega)] at h
     exact h
    have hsb:=HFB.out q
    have hsb2:=HFB.out (q+1)
    rw [HSN.out] at hsb2
    have HKa:=HKC.out wa (by rw [HNW.out]; exact HB.out)
    have k0:=HKa.1
    clear HKa
    generalize isum ((irange L M).take q) f=Sq at *
    go_wp2
    go_loopw [52] (fun i wq=>∃(j:Nat) (F:Nat→Value),j≤m∧i=.int .i64 j∧wq.rowIs N 3 m F∧(∀t,t < j→F t=.int .i64 ((lef rows rooms dir (L+q)).getD t 0))∧Below N W wq) (fun i _=>m-(intOf i).toNat)
    case atStart=>exact ⟨0,F,Nat.zero_le _,rfl,HRW.out,fun t ht=>absurd ht (by omega),HB.out⟩
    case round=>
     obtain ⟨j,F2,hj,rfl,hrow,hdone,hbel⟩:=hrel
     have HRW2:Hid (wr.rowIs N 3 m F2):=hrow
     have HDN:Hid (∀t,t < j→F2 t=.int .i64 ((lef rows rooms dir (L+q)).getD t 0)):=hdone
     have HB2:Hid (Below N W wr):=hbel
     have HB2W:Hid (Below W.heap.size W wr):=by rw [HNW.out]; exact hbel
     clear hrow hdone hbel
     by_cases hjl:j < m
     ·have hjr:j < rows.length:=by rw [←HME.out]; exact hjl
      obtain ⟨b2,o2,cp2,rvv,hs2,_,hcc2,hr2⟩:=mat_cell (HR.out.below HB2W.out (Nat.le_refl _)) hjr
      simp only [Value.slice.injEq] at hs2
      obtain ⟨rfl,hxx,rfl⟩:=hs2
      clear hxx
      have hmem:rows.getD j []∈rows:=by simp [hjr]
      have hlen:=HF.out.len _ hmem
      obtain ⟨b3,o3,cp3,hs3,hc3,hcc3⟩:=sl_cell hr2 (k:=dir) (by rw [hlen]; omega)
      rw [hlen] at hs3
      subst hs3
      have hab:=HF.out.bd _ hmem dir hdir
      have hjo:j < rooms.length:=by rw [HRL.out]; exact hjr
      obtain ⟨b4,o4,cp4,hs4,_,hcc4⟩:=sl_cell (HO.out.below HB2W.out (Nat.le_refl _)) (k:=j) hjo
      simp only [Value.slice.injEq] at hs4
      obtain ⟨rfl,hxx,rfl⟩:=hs4
      clear hxx
      have hRb:=HRB.out (rooms.getD j 0) (by simp [hjo])
      have HLG:Hid ((lef rows rooms dir (L+q)).getD j 0=rooms.getD j 0-(rows.getD j []).getD dir 0*(L+q)):=lef_get rows rooms dir (L+q) j hjr
      clear hmem hr2 hlen hjo hjr
      generalize (rows.getD j []).getD dir 0=a at *
      generalize rooms.getD j 0=R at *
      have hvb:(L+(q:Int)).natAbs≤40000:=by omega
      have hpb:(a*(L+(q:Int))).natAbs≤40000000000:=by rw [Int.natAbs_mul]; exact Nat.le_trans (Nat.mul_le_mul hab hvb) (by decide)
      have hpw:wrap64 (a*(L+(q:Int)))=a*(L+(q:Int)):=IntWalk.wrap64_in _ ⟨by omega,by omega⟩
      have hsw:wrap64 (R-a*(L+(q:Int)))=R-a*(L+(q:Int)):=IntWalk.wrap64_in _ ⟨by omega,by omega⟩
      have d3:=HRW2.out.cell (i:=j) (by omega)
      have d4:=HRW2.out.frozen j
      generalize F2 j=fj at d3
      have hjI:(j:Int) < (m:Int):=by omega
      have hjI0:(0:Int)≤(j:Int):=by omega
      have hdI1:(dir:Int) < (d:Int)+1:=by omega
      have hdN1:dir < d+1:=by omega
      have hj2:j < 20000000:=by omega
      go_wp2
      have R1:Hid ((wr.setCell ⟨N,j,none⟩ (.int .i64 (R-a*(L+(q:Int))))).drew.rowIs N 3 m (fun t=>if t=j then .int .i64 (R-a*(L+(q:Int))) else F2 t)):=(HRW2.out.set j _).drew
      have R2:Hid (∀t,t < j+1→(if t=j then Value.int .i64 (R-a*(L+(q:Int))) else F2 t)=.int .i64 ((lef rows rooms dir (L+q)).getD t 0)):=fun t ht=>by
       by_cases htj:t=j
       ·rw [if_pos htj,htj,HLG.out]
       ·rw [if_neg htj]
        exact HDN.out t (by omega)
      have R3:Hid (Below N W (wr.setCell ⟨N,j,none⟩ (.int .i64 (R-a*(L+(q:Int))))).drew):=Below.drew (((Touch.refl _ _).setCell j _).below HB2.out (Nat.le_refl _))
      go_region
      go_wp2
      exact ⟨⟨j+1,_,hjl,by go_num,R1.out,R2.out,R3.out⟩,by simp [intOf]; omega⟩
     ·have HLS:Hid (Sl wr.heap.size 3 wr (.slice (some ⟨N,0,none⟩) m m) (ints (lef rows rooms dir (L+q)))):=by
       have hjm:j=m:=by omega
       refine Sl.row HRW2.out (by rw [ints_length,lef_len,←HME.out]) (by unfold maxLen; omega) (fun i hi=>?_)
       rw [ints_get _ _ (by rw [lef_len,←HME.out]; exact hi),HDN.out i (by omega)]
      have HLB:Hid (∀z∈lef rows rooms dir (L+q),z.natAbs≤100000000000+(dir+1)*10000000000):=fun z hz=>by
       unfold lef at hz
       obtain ⟨t,ht,rfl⟩:=List.mem_map.1 hz
       have ht2:=List.mem_range.1 ht
       have h1:=HRB.out (rooms.getD t 0) (by simp [show t < rooms.length by rw [HRL.out]; exact ht2])
       have h2:=HF.out.bd _ (show rows.getD t []∈rows by simp [ht2]) dir hdir
       have h3:((rows.getD t []).getD dir 0*(L+(q:Int))).natAbs≤10000000000:=by
        rw [Int.natAbs_mul]
        exact Nat.le_trans (Nat.mul_le_mul h2 (show (L+(q:Int)).natAbs≤10000 by omega)) (by decide)
       generalize (rows.getD t []).getD dir 0*(L+(q:Int))=p at *
       generalize rooms.getD t 0=R at *
       omega
      have HCA:Hid (Calls Tryz.prog 52 #[.agg #[.slice ro m rc,.slice (some ⟨lb,lx,none⟩) d lc,.slice (some ⟨mb,mx,none⟩) d mc],.int .i64 k,.int .i64 ((dir:Int)+1),.slice (some ⟨N,0,none⟩) m m] wr fun e w'=>e=.returned (.int .i64 (f (L+q)))∧Below wr.heap.size wr w'):=by
       rw [HFE.out]
       have h:=HIH.out (lef rows rooms dir (L+q)) (.slice (some ⟨N,0,none⟩) m m) wr
       rw [←HME.out] at h
       exact h ((HR.out.below HB2W.out (Nat.le_refl _)).any (Nat.le_refl _)) ((HL.out.below HB2W.out (Nat.le_refl _)).any (Nat.le_refl _)) ((HM.out.below HB2W.out (Nat.le_refl _)).any (Nat.le_refl _)) HLS.out (by rw [lef_len]; exact HME.out.symm) HLB.out
      have hfv:0≤f (L+q)∧f (L+q)≤200000000000000000:=by rw [HFE.out]; exact HTS.out _
      have HKr:=HKC.out wr HB2W.out
      have k0r:=HKr.1
      have k1r:=HKr.2.1
      have k2r:=HKr.2.2
      have hfv1:=hfv.1
      have hfv2:=hfv.2
      have hsb1:=hsb2.1
      have hsb3:=hsb2.2
      have hsb4:=hsb.1
      generalize f (L+q)=fv at *
      clear HKr hfv k0 hsb2 hsb
      go_wp2_with fail
      refine HCA.out.mono ?_
      rintro e w5 ⟨rfl,hb5⟩
      have R1:Hid (w5.rowIs N 3 m F2):=HRW2.out.of_block (hb5.block N HRW2.out.lt)
      have R2:Hid (Below N W w5):=HB2.out.trans (hb5.mono (by have:=HRW2.out.lt; omega))
      clear hb5 k0r k1r k2r HCA
      have hq2:q < 20001:=by omega
      go_wp2
      exact ⟨⟨q+1,F2,hql,by go_num,by rw [HSN.out],R1.out,R2.out⟩,by simp [intOf]; omega⟩
   ·have HFI:Hid (isum ((irange L M).take q) f=TT):=by
     show _=_
     rw [HTT.out,List.take_of_length_le]
     rw [irange_len]
     have:=HNN.out
     omega
    have hqI:¬((q:Int) < M-L+1):=by have:=HNN.out; omega
    have HBF:Hid (Below w.heap.size w wa):=HW.out.trans (HB.out.mono (by have:=HNw.out; omega))
    rw [HFI.out]
    clear hq hql
    go_wp2
    go_ret
    exact ⟨rfl,HBF.out⟩
end Go.Proofs.YtadpjlpdfimaeaaGreatDoor
