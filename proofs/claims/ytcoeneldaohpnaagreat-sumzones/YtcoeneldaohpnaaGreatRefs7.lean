import Derived.Test.YtcoeneldaohpnaaGreatRefs6
namespace Go.Proofs.YtcoeneldaohpnaaGreat
open Go.RowKit
def skipL (k j:Nat):List Int:=((List.range j).filter fun x=>x != k).map fun (x:Nat)=>(x:Int)
theorem skipL_succ (k j:Nat):skipL k (j+1)=if j=k then skipL k j else skipL k j ++ [(j:Int)]:=by
 unfold skipL
 rw [List.range_succ,List.filter_append,List.map_append]
 by_cases h:j=k
 ·subst h; simp
 ·simp [h]
theorem skipL_spec {k j:Nat} : (skipL k j).length=(if k < j then j-1 else j)∧∀i,i < (skipL k j).length→(skipL k j).getD i 0=(Lin.skp k i:Nat):=by
 induction j with
 | zero=>simp [skipL]
 | succ j ih=>
  obtain ⟨h1,h2⟩:=ih
  rw [skipL_succ]
  by_cases e:j=k
  ·rw [if_pos e]
   refine ⟨?_,h2⟩
   rw [h1,if_neg (by omega),if_pos (by omega)]; omega
  ·rw [if_neg e]
   by_cases hk:k < j
   ·rw [if_pos hk] at h1
    refine ⟨by rw [List.length_append,h1,if_pos (by omega)]; simp; omega,fun i hi=>?_⟩
    by_cases hi':i < (skipL k j).length
    ·rw [←h2 i hi']; simp only [List.getD_eq_getElem?_getD]; rw [List.getElem?_append_left hi']
    ·have:i=(skipL k j).length:=by simp at hi; omega
     subst this
     simp only [List.getD_eq_getElem?_getD]; rw [List.getElem?_append_right (by omega)]
     simp [Lin.skp,h1,show ¬j-1 < k by omega]; omega
   ·rw [if_neg hk] at h1
    refine ⟨by rw [List.length_append,h1,if_neg (by omega)]; simp,fun i hi=>?_⟩
    by_cases hi':i < (skipL k j).length
    ·rw [←h2 i hi']; simp only [List.getD_eq_getElem?_getD]; rw [List.getElem?_append_left hi']
    ·have:i=(skipL k j).length:=by simp at hi; omega
     subst this
     simp only [List.getD_eq_getElem?_getD]; rw [List.getElem?_append_right (by omega)]
     simp [Lin.skp,h1,show j < k by omega]
theorem skipL_len {k c:Nat} (h:k < c):(skipL k c).length=c-1:=by rw [skipL_spec.1,if_pos h]
theorem skipL_mem {k c:Nat} {q:Int} (h:q∈skipL k c):0≤q∧q < (c:Int):=by
 simp only [skipL,List.mem_map,List.mem_filter,List.mem_range] at h
 obtain ⟨x,⟨h1,_⟩,rfl⟩:=h
 omega
def muL (c:Nat) (rows:List (List Int)):List Int:=(List.range c).map fun k=>Lin.mu (fm rows) k
theorem det_skip {rows:List (List Int)} {c k:Nat} (hl:rows.length+1=c) (hk:k < c):detL (colsL rows (skipL k c))=Lin.od (fm rows).length (Lin.cols (fm rows) (Lin.skp k)) fun _=>false:=by
 have hsl:(skipL k c).length=rows.length:=by rw [skipL_len hk]; omega
 rw [det_cols hsl]
 refine Lin.od_congr (by simp [Lin.cols]) (fun i hi j hj=>?_) _
 have hi':i < rows.length:=by simpa [Lin.cols,fm] using hi
 have hj':j < rows.length:=by simpa [fm] using hj
 have e:toK (skipL k c) j=Lin.skp k j:=by
  unfold toK; rw [skipL_spec.2 j (by omega)]; simp
 simp [Lin.cols,fm,hi',e]
theorem ngo_mod (k:Nat):Lin.ngo k=if k % 2=1 then -1 else 1:=by
 induction k with
 | zero=>rfl
 | succ k ih=>
  simp only [Lin.ngo]; rw [ih]
  by_cases h:k % 2=1
  ·rw [if_pos h,if_neg (by omega)]; rfl
  ·rw [if_neg h,if_pos (by omega)]
theorem muL_snoc (c:Nat) (rows:List (List Int)) (k:Nat) (h:k < c):(muL c rows).take (k+1)=(muL c rows).take k ++ [Lin.mu (fm rows) k]:=by
 unfold muL
 rw [List.take_succ_eq_append_getElem (by simpa using h)]; simp
theorem sq_skip {c Bd k:Nat} {rows:List (List Int)} (h:Mx c Bd rows) (hl:rows.length+1=c) (hk:k < c):Sq (colsL rows (skipL k c)).length Bd (colsL rows (skipL k c)):=by
 have hc:=h.c5
 rw [colsL_length]
 refine ⟨colsL_length _ _,fun r hr=>?_,fun r hr j hj=>?_,Nat.le_trans (fb_mono h.pos (by omega)) h.small,by omega,h.pos⟩
 ·simp only [colsL,List.mem_map] at hr
  obtain ⟨r',_,rfl⟩:=hr
  rw [List.length_map,skipL_len hk]; omega
 ·simp only [colsL,List.mem_map] at hr
  obtain ⟨r',hr',rfl⟩:=hr
  have hsl:j < (skipL k c).length:=by rw [skipL_len hk]; omega
  have hq:=skipL_mem (List.getElem_mem hsl)
  have e:((skipL k c).map fun x=>r'.getD x.toNat 0).getD j 0=r'.getD ((skipL k c)[j]).toNat 0:=by simp [hsl]
  rw [e]
  have hlt:((skipL k c)[j]).toNat < r'.length:=by rw [h.row r' hr']; omega
  exact h.bd r' hr' _ (by simp [hlt])
theorem mu_bd {c Bd k:Nat} {rows:List (List Int)} (h:Mx c Bd rows) (hl:rows.length+1=c) (hk:k < c):(detL (colsL rows (skipL k c))).natAbs≤1152921504606846976:=by
 have hs:=sq_skip h hl hk
 unfold detL
 have h1:=Lin.od_bd (n:=(colsL rows (skipL k c)).length) (B:=Bd) (fm (colsL rows (skipL k c))) (fun _=>false) (fun r hr j hj=>by
  simp only [fm,List.mem_map] at hr
  obtain ⟨l,hl,rfl⟩:=hr
  exact hs.bd l hl j hj) (by rw [Lin.cu_none]; simp [fm])
 have h2:(fm (colsL rows (skipL k c))).length=(colsL rows (skipL k c)).length:=by simp [fm]
 rw [h2] at h1
 have:=hs.small
 omega
theorem muL_bd {c Bd:Nat} {rows:List (List Int)} (h:Mx c Bd rows) (hl:rows.length+1=c):∀z∈muL c rows,z.natAbs≤1152921504606846976:=by
 intro z hz
 simp only [muL,List.mem_map,List.mem_range] at hz
 obtain ⟨k,hk,rfl⟩:=hz
 have h1:=mu_bd h hl hk
 rw [det_skip hl hk] at h1
 unfold Lin.mu
 rw [Int.natAbs_mul]
 have h2:(Lin.ngo k).natAbs=1:=by rw [ngo_mod]; by_cases e:k % 2=1 <;> simp [e]
 rw [h2,Nat.one_mul]; exact h1
theorem low_bd {l:List Int} {b:Nat} (h:∀z∈l,z.natAbs≤b):∀z∈Lin.low l,z.natAbs≤b:=by
 intro z hz
 simp only [Lin.low,List.mem_map] at hz
 obtain ⟨y,hy,rfl⟩:=hz
 by_cases h0:Lin.gc l=0
 ·rw [h0]; simp
 ·have h1:=h y hy
  obtain ⟨q,hq⟩:=Lin.gc_dvd hy
  have h3:y / (Lin.gc l:Int)=q:=by rw [hq]; exact Int.mul_ediv_cancel_left q (by omega)
  have h4:y.natAbs=Lin.gc l*q.natAbs:=by rw [hq,Int.natAbs_mul]; simp
  rw [h3]
  have h5:1*q.natAbs≤Lin.gc l*q.natAbs:=Nat.mul_le_mul_right _ (by omega)
  omega
def normL (c:Nat) (m:List (List Int)):List Int:=if (pickL c m).length+1=c then Lin.upr (Lin.low (muL c (pickL c m))) else []
def normB (c:Nat) (m:List (List Int)):Bool:=decide ((pickL c m).length+1=c)
set_option maxRecDepth 100000 in
set_option maxHeartbeats 4000000 in
theorem normalR_own (c Bd B:Nat) (m:List (List Int)) (v:Value) (w:World) (hx:Mx c Bd m) (hm:Mat B 26 3 w v m) (hml:m.length≤500) (hm1:1≤m.length) :
  Calls Tryz.prog 33 #[v] w fun e w'=>∃x,e=.returned (.tuple #[x,.bool (normB c m)])∧Sl 0 3 w' x (ints (normL c m))∧Below w.heap.size w w':=by
 obtain ⟨i3,hi3,hz30,hz31,hz32⟩:=info_parts Tryz.info3
 obtain ⟨ao,cap,hvv,hlc,hcm⟩:=mat_open hm
 subst hvv
 have hc5:=hx.c5
 have hc1:=hx.c1
 have HM:Hid (Mat B 26 3 w (.slice ao m.length cap) m):=hm
 have HX:Hid (Mx c Bd m):=hx
 obtain ⟨b,o,cp,r1,hs,hcp1,hcc,hr1⟩:=mat_cell hm (k:=0) (by omega)
 simp only [Value.slice.injEq] at hs
 obtain ⟨rfl,_,rfl⟩:=hs
 obtain ⟨ro,rc,hrv,hrc1,hrc2⟩:=sl_open hr1
 have hrl:(m.getD 0 []).length=c:=hx.row _ (by simp [show 0 < m.length by omega])
 rw [hrl] at hrv hrc1
 subst hrv
 rw [Nat.add_zero] at hcc
 clear hm hx hr1 hrl
 go_enter Tryz.func33,Tryz.ntmps33
 go_wp2_with fail
 refine (picked_any c Bd B m _ w HX.out HM.out hml).mono ?_
 rintro e w1 ⟨pv,rfl,hrw,hb1⟩
 have HPX:Hid (Mx c Bd (pickL c m)):=HX.out.sub fun r hr=>pickL_mem hr
 have hpl:=pickL_len c m
 have HNL:Hid (normL c m=if (pickL c m).length+1=c then Lin.upr (Lin.low (muL c (pickL c m))) else []):=rfl
 have HNB:Hid (normB c m=decide ((pickL c m).length+1=c)):=rfl
 generalize pickL c m=P at *
 have HP:Hid (Mat w.heap.size 26 3 w1 pv P):=hrw.mat (Nat.le_refl _)
 have HB1:Hid (Below w.heap.size w w1):=hb1
 have hsz1:w.heap.size≤w1.heap.size:=hb1.size
 clear hrw hb1 hcc
 obtain ⟨po,pc,hpv,hpc1,hpc2⟩:=mat_open HP.out
 subst hpv
 by_cases hn:P.length+1=c
 ·have hnb:((P.length:Int) != (c:Int)-1)=false:=by rw [bne_eq_false_iff_eq]; omega
  have HNL2:Hid (normL c m=Lin.upr (Lin.low (muL c P))):=by show _=_; rw [HNL.out,if_pos hn]
  have HNB2:Hid (normB c m=true):=by show _=_; rw [HNB.out]; simpa using hn
  have HN:Hid (P.length+1=c):=hn
  clear hn
  have hPl:P.length≤4:=by have:=HN.out; omega
  go_wp2
  go_loopw [6,7] (fun x q wr=>∃k:Nat,k≤c∧q=.int .i64 k∧wr.ownsRow w1.heap.size 3 1 x k (ints ((muL c P).take k))∧Below w1.heap.size w1 wr) (fun _ q _=>c-(intOf q).toNat)
  case atStart=>exact ⟨0,Nat.zero_le _,rfl,World.ownsRow_nil _ _ _ _,Below.refl _ _⟩
  case round=>
   obtain ⟨k,hk,rfl,hown,hbel⟩:=hrel
   obtain ⟨wa,rfl⟩:∃wa,wa=wr:=⟨wr,rfl⟩
   have HO:Hid (wa.ownsRow w1.heap.size 3 1 u6 k (ints ((muL c P).take k))):=hown
   have HB:Hid (Below w1.heap.size w1 wa):=hbel
   have hsz:w1.heap.size≤wa.heap.size:=hbel.size
   clear hown hbel
   by_cases hlt:k < c
   ·obtain ⟨M,hM⟩:∃M,M=wa.heap.size:=⟨_,rfl⟩
    have HM2:Hid (M=wa.heap.size):=hM
    have hMs:w1.heap.size≤M:=by omega
    clear hM
    go_wp2
    go_loopw [8,9] (fun x q wq=>∃j:Nat,j≤c∧q=.int .i64 j∧wq.ownsRow M 3 1 x (skipL k j).length (ints (skipL k j))∧Below M wa wq) (fun _ q _=>c-(intOf q).toNat)
    case atStart=>exact ⟨0,Nat.zero_le _,rfl,World.ownsRow_nil _ _ _ _,Below.refl _ _⟩
    case round=>
     obtain ⟨j,hj,rfl,hown,hbel⟩:=hrel
     have HOq:Hid (wr.ownsRow M 3 1 u8 (skipL k j).length (ints (skipL k j))):=hown
     have HBq:Hid (Below M wa wr):=hbel
     have hszq:M≤wr.heap.size:=by have:=hbel.size; rw [HM2.out]; exact this
     clear hown hbel
     by_cases hjl:j < c
     ·have HSS:Hid (skipL k (j+1)=if j=k then skipL k j else skipL k j ++ [(j:Int)]):=skipL_succ k j
      have hsl:(skipL k j).length≤j:=by rw [skipL_spec.1]; split <;> omega
      by_cases hjk:j=k
      ·have hjb:((j:Int) != (k:Int))=false:=by rw [bne_eq_false_iff_eq]; omega
       have HSS2:Hid (skipL k (j+1)=skipL k j):=by show _=_; rw [HSS.out,if_pos hjk]
       clear hjk
       go_wp2
       go_roundw
       case rel=>exact ⟨j+1,by omega,by go_num,by rw [HSS2.out]; exact HOq.out,HBq.out⟩
       case measure=>simp [intOf]; omega
      ·have hjb:((j:Int) != (k:Int))=true:=by rw [bne_iff_ne]; omega
       have HSS2:Hid (skipL k (j+1)=skipL k j ++ [(j:Int)]):=by show _=_; rw [HSS.out,if_neg hjk]
       clear hjk
       generalize skipL k j=sl at *
       go_wp2_with (first | (at_builtin; refine wpList_append_own _ rfl _ _ 26 rfl M 3 i3 (.int .i64 0) 1 8 Tryz.underlying26 hi3 hz30 hz31 hz32 rfl (by decide) _ _ _ rfl (HOq.out.alloc _) ⟨wr.heap.size,0,none⟩ 1 1 [.int .i64 j] rfl rfl (one_new _ _ _) (one_int _) ?c3 ?c4 ?c5 ?_))
       case c3=>unfold maxLen; omega
       case c4=>omega
       case c5=>simp; omega
       intro v' w3 ho hg _
       have R:=owns_push (z:=(j:Int)) (N:=sl.length+1) hszq (l:=sl) HOq.out HBq.out ho hg rfl
       have R1:Hid (w3.ownsRow M 3 1 v' (sl.length+1) (ints (sl ++ [(j:Int)]))):=R.1
       have R2:Hid (Below M wa w3):=R.2
       clear R ho hg
       go_wp2
       go_roundw
       case rel=>exact ⟨j+1,by omega,by go_num,by rw [HSS2.out]; simpa using R1.out,R2.out⟩
       case measure=>simp [intOf]; omega
     ·have hjc:j=c:=by omega
      subst hjc
      have HS:Hid (Sl w.heap.size 3 wr u8 (ints (skipL k j))):=Sl.own HOq.out
      have HPr:Hid (Mat w.heap.size 26 3 wr (.slice po P.length pc) P):=(HP.out.below HB.out (Nat.le_refl _)).below HBq.out (by rw [HM2.out]; exact Nat.le_refl _)
      have HBw:Hid (Below w1.heap.size w1 wr):=HB.out.trans (HBq.out.mono hMs)
      have HOw:Hid (wr.ownsRow w1.heap.size 3 1 u6 k (ints ((muL j P).take k))):=owns_below HO.out HBq.out (by rw [HM2.out]; exact Nat.le_refl _)
      have hszw:w1.heap.size≤wr.heap.size:=HBw.out.size
      clear HO HB HOq HBq
      go_wp2_with fail
      refine (columns_any w.heap.size P (skipL k j) _ _ wr HPr.out HS.out (by omega) (by rw [skipL_len hlt]; omega) ?_).mono ?_
      ·intro q hq
       have h1:=skipL_mem hq
       exact ⟨h1.1,fun r hr=>by rw [HPX.out.row r hr]; exact h1.2⟩
      rintro e w2 ⟨xv,rfl,hrw,hb2⟩
      have HXV:Hid (Mat wr.heap.size 26 3 w2 xv (colsL P (skipL k j))):=hrw.mat (Nat.le_refl _)
      have HB2:Hid (Below wr.heap.size wr w2):=hb2
      clear hrw hb2
      go_wp2_with fail
      refine (det_any Bd wr.heap.size (colsL P (skipL k j)) xv w2 (sq_skip HPX.out HN.out hlt) HXV.out).mono ?_
      rintro e w3 ⟨rfl,hb3⟩
      have HB3:Hid (Below wr.heap.size wr w3):=HB2.out.trans (hb3.mono HB2.out.size)
      have HOw3:Hid (w3.ownsRow w1.heap.size 3 1 u6 k (ints ((muL j P).take k))):=owns_below HOw.out HB3.out (Nat.le_refl _)
      have HBw3:Hid (Below w1.heap.size w1 w3):=HBw.out.trans (HB3.out.mono hszw)
      have hszw3:w1.heap.size≤w3.heap.size:=HBw3.out.size
      have hdb:=mu_bd HPX.out HN.out hlt
      have HMU:Hid (Lin.mu (fm P) k=Lin.ngo k*detL (colsL P (skipL k j))):=by show _=_; rw [det_skip HN.out hlt]; rfl
      have HSN:Hid ((muL j P).take (k+1)=(muL j P).take k ++ [Lin.mu (fm P) k]):=muL_snoc j P k hlt
      clear hb3 HB2 HB3 HOw HBw HXV HPr HS
      generalize detL (colsL P (skipL k j))=D at *
      have hll:((muL j P).take k).length=k:=by simp [muL]; omega
      have HLL:Hid (((muL j P).take k).length=k):=hll
      clear hll
      by_cases hodd:k % 2=1
      ·have hob:((k:Int) % 2 == 1)=true:=by rw [beq_iff_eq]; omega
       have HODD:Hid (k % 2=1):=hodd
       clear hodd
       go_wp2_with (first | (at_builtin; refine wpList_append_own _ rfl _ _ 26 rfl w1.heap.size 3 i3 (.int .i64 0) 1 8 Tryz.underlying26 hi3 hz30 hz31 hz32 rfl (by decide) _ _ _ rfl (HOw3.out.alloc _) ⟨w3.heap.size,0,none⟩ 1 1 [.int .i64 (-D)] rfl rfl (one_new _ _ _) (one_int _) ?e3 ?e4 ?e5 ?_))
       case e3=>unfold maxLen; omega
       case e4=>omega
       case e5=>simp; omega
       intro v' w4 ho hg _
       have R:=owns_push (z:=(-D)) (N:=k+1) hszw3 (l:=(muL j P).take k) (by rw [HLL.out]; exact HOw3.out) HBw3.out (by rw [HLL.out]; exact ho) hg (by rw [HLL.out])
       have R1:Hid (w4.ownsRow w1.heap.size 3 1 v' (k+1) (ints ((muL j P).take (k+1)))):=by
        have:=R.1
        rw [HSN.out,HMU.out,ngo_mod,if_pos HODD.out,show (-1:Int)*D=-D by omega]; exact this
       have R2:Hid (Below w1.heap.size w1 w4):=R.2
       clear R ho hg
       go_wp2
       go_roundw
       case rel=>exact ⟨k+1,by omega,by go_num,R1.out,R2.out⟩
       case measure=>simp [intOf]; omega
      ·have hob:((k:Int) % 2 == 1)=false:=by rw [beq_eq_false_iff_ne]; omega
       have HODD:Hid (¬k % 2=1):=hodd
       clear hodd
       go_wp2_with (first | (at_builtin; refine wpList_append_own _ rfl _ _ 26 rfl w1.heap.size 3 i3 (.int .i64 0) 1 8 Tryz.underlying26 hi3 hz30 hz31 hz32 rfl (by decide) _ _ _ rfl (HOw3.out.alloc _) ⟨w3.heap.size,0,none⟩ 1 1 [.int .i64 D] rfl rfl (one_new _ _ _) (one_int _) ?f3 ?f4 ?f5 ?_))
       case f3=>unfold maxLen; omega
       case f4=>omega
       case f5=>simp; omega
       intro v' w4 ho hg _
       have R:=owns_push (z:=D) (N:=k+1) hszw3 (l:=(muL j P).take k) (by rw [HLL.out]; exact HOw3.out) HBw3.out (by rw [HLL.out]; exact ho) hg (by rw [HLL.out])
       have R1:Hid (w4.ownsRow w1.heap.size 3 1 v' (k+1) (ints ((muL j P).take (k+1)))):=by
        have:=R.1
        rw [HSN.out,HMU.out,ngo_mod,if_neg HODD.out,Int.one_mul]; exact this
       have R2:Hid (Below w1.heap.size w1 w4):=R.2
       clear R ho hg
       go_wp2
       go_roundw
       case rel=>exact ⟨k+1,by omega,by go_num,R1.out,R2.out⟩
       case measure=>simp [intOf]; omega
   ·have hkc:k=c:=by omega
    have HO2:Hid (wa.ownsRow w1.heap.size 3 1 u6 c (ints (muL c P))):=by
     have h:=HO.out
     rw [List.take_of_length_le (by simp [muL]; omega),hkc] at h
     exact h
    have HMB:Hid (∀z∈muL c P,z.natAbs≤1152921504606846976):=muL_bd HPX.out HN.out
    have hmul:(muL c P).length=c:=by simp [muL]
    have HMUL:Hid ((muL c P).length=c):=hmul
    have HBa:Hid (Below w.heap.size w wa):=HB1.out.trans (HB.out.mono hsz1)
    clear hkc HO hmul
    generalize muL c P=ml at *
    go_wp2_with fail
    refine (lowered_any 0 ml u6 wa (Sl.own HO2.out) (by rw [HMUL.out]; omega) (fun z hz=>Nat.le_trans (HMB.out z hz) (by omega))).mono ?_
    rintro e w2 ⟨lv,rfl,hlo,hb2⟩
    have HLB:Hid (∀z∈Lin.low ml,z.natAbs≤1152921504606846976):=low_bd HMB.out
    have hll:(Lin.low ml).length=c:=by rw [←HMUL.out]; simp [Lin.low]
    have HLLN:Hid ((Lin.low ml).length=c):=hll
    have HLO:Hid (Sl 0 3 w2 lv (ints (Lin.low ml))):=Sl.own hlo
    have HB2:Hid (Below w.heap.size w w2):=HBa.out.trans (hb2.mono HBa.out.size)
    have hsz2:w.heap.size≤w2.heap.size:=HB2.out.size
    clear hlo hb2 hll
    generalize Lin.low ml=lw at *
    obtain ⟨lo,lcap,hlv,hlc1,hlc2⟩:=sl_open HLO.out
    subst hlv
    have hlwl:=HLLN.out
    rw [hlwl] at hlc1 HLO ⊢
    clear hlwl
    go_wp2
    go_loopw [6,11] (fun y q wr=>∃k:Nat,k≤c∧q=.int .i64 k∧y=.slice lo c lcap∧wr=w2∧∀i,i < k→lw.getD i 0=0) (fun _ q _=>c-(intOf q).toNat)
    case atStart=>exact ⟨0,Nat.zero_le _,rfl,rfl,rfl,fun i hi=>absurd hi (by omega)⟩
    case round=>
     obtain ⟨t,ht,rfl,rfl,rfl,hzz⟩:=hrel
     have HZZ:Hid (∀i,i < t→lw.getD i 0=0):=hzz
     clear hzz
     by_cases htl:t < c
     ·have htl2:t < lw.length:=by rw [HLLN.out]; exact htl
      obtain ⟨b2,o2,cp2,hs2,hcx,hcc2⟩:=sl_cell (by rw [←HLLN.out] at HLO; exact HLO.out) htl2
      rw [HLLN.out] at hs2 hcx
      simp only [Value.slice.injEq] at hs2
      obtain ⟨rfl,_,rfl⟩:=hs2
      have hbd:=HLB.out (lw.getD t 0) (by simp [htl2])
      have HUP:Hid (lw.getD t 0≠0→Lin.upr lw=if lw.getD t 0 < 0 then lw.map (fun v=>-v) else lw):=by
       intro hne
       unfold Lin.upr
       rw [Lin.find_at htl2 HZZ.out hne]
      have HZ1:Hid (lw.getD t 0=0→∀i,i < t+1→lw.getD i 0=0):=by
       intro h0 i hi
       by_cases e:i < t
       ·exact HZZ.out i e
       ·rw [show i=t by omega]; exact h0
      generalize lw.getD t 0=x at *
      clear htl2
      by_cases hx0:x=0
      ·have hxb:(x != 0)=false:=by simp [hx0]
       have HZ2:=HZ1.out hx0
       have HZ3:Hid (∀i,i < t+1→lw.getD i 0=0):=HZ2
       clear hx0 HZ2
       go_wp2
       go_roundw
       case rel=>exact ⟨t+1,by omega,by go_num,by trivial,by trivial,HZ3.out⟩
       case measure=>simp [intOf]; omega
      ·have hxb:(x != 0)=true:=by simp [hx0]
       have HU:=HUP.out hx0
       by_cases hneg:x < 0
       ·have HU2:Hid (Lin.upr lw=lw.map (fun v=>-v)):=by show _=_; rw [HU,if_pos hneg]
        clear hx0 HU HUP
        go_wp2_with fail
        refine (turned_any 0 lw _ wr (by rw [←HLLN.out] at HLO; simpa [HLLN.out] using HLO.out) (by rw [HLLN.out]; omega) (fun z hz=>by have:=HLB.out z hz; omega)).mono ?_
        rintro e w5 ⟨tv,rfl,hto,hb5⟩
        have HTO:Hid (Sl 0 3 w5 tv (ints (lw.map fun z=>-z))):=Sl.own hto
        have HB5:Hid (Below w.heap.size w w5):=HB2.out.trans (hb5.mono hsz2)
        clear hto hb5
        go_wp2
        go_ret2
        refine ⟨tv,?_,?_,HB5.out⟩
        ·rw [HNB2.out]; rfl
        ·rw [HNL2.out,HU2.out]; exact HTO.out
       ·have HU2:Hid (Lin.upr lw=lw):=by show _=_; rw [HU,if_neg hneg]
        clear hx0 HU HUP
        go_wp2
        go_ret2
        refine ⟨.slice (some ⟨b2,o2,none⟩) c lcap,?_,?_,HB2.out⟩
        ·rw [HNB2.out]; rfl
        ·rw [HNL2.out,HU2.out]; exact HLO.out
     ·go_wp2
      go_ret2
      refine ⟨.slice lo c lcap,?_,?_,HB2.out⟩
      ·rw [HNB2.out]; rfl
      ·have hu:Lin.upr lw=lw:=by
        unfold Lin.upr
        rw [Lin.find_none (fun i hi=>HZZ.out i (by rw [HLLN.out] at hi; omega))]; simp
       rw [HNL2.out,hu]; exact HLO.out
 ·have hnb:((P.length:Int) != (c:Int)-1)=true:=by rw [bne_iff_ne]; omega
  have HNL2:Hid (normL c m=[]):=by show _=_; rw [HNL.out,if_neg hn]
  have HNB2:Hid (normB c m=false):=by show _=_; rw [HNB.out]; simpa using hn
  clear hn
  go_wp2
  go_ret2
  refine ⟨.slice none 0 0,?_,?_,HB1.out⟩
  ·rw [HNB2.out]; rfl
  ·rw [HNL2.out]; exact Sl.nil _ _ _
theorem normalR_any (c Bd B:Nat) (m:List (List Int)) (v:Value) (w:World) (hx:Mx c Bd m) (hm:Mat B 26 3 w v m) (hml:m.length≤500) (hm1:1≤m.length) :
  Calls Tryz.prog 33 #[v] w fun e w'=>∃x,e=.returned (.tuple #[x,.bool (normB c m)])∧Sl w.heap.size 3 w' x (ints (normL c m))∧Below w.heap.size w w':=
 (normalR_own c Bd B m v w hx hm hml hm1).mono fun _ _ ⟨x,h1,h2,h3⟩=>⟨x,h1,h2.more (Nat.zero_le _),h3⟩
end Go.Proofs.YtcoeneldaohpnaaGreat
