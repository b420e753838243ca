import Derived.Test.YtcoeneldaohpnaaGreatHm8
import Derived.Test.YtcoeneldaohpnaaGreatMgAN
namespace Go.Proofs.YtcoeneldaohpnaaGreat
open Go.RowKit
attribute [local go_sem ↓] Go.wp_at_zero Go.wp_at_succ
theorem over_of {d:Nat} {P:List (List Int)} {r x:List Int} (hr:RowOf d P r) (hx:x.length=d) (hb:(r.getD d 0).natAbs≤1000000000000000000) (h4:d≤4) (hxb:∀z∈x,z.natAbs≤1000) (B:Nat) (u v:Value) (w:World) (hu:Sl B 3 w u (ints r)) (hv:Sl B 3 w v (ints x)) :
  Calls Tryz.prog 17 #[u,v] w fun e w'=>e=.returned (.int .i64 (overL r x))∧∃n,w'=w.drewN n:=by
 refine over_any B r x u v w hu hv (by rw [hx]; exact hr.len) ⟨?_,?_,?_,hxb⟩ (by rw [hx]; exact hb)
 ·rw [List.length_take]; omega
 ·rw [List.length_take]; omega
 ·rw [hx]; exact hr.bd
end Go.Proofs.YtcoeneldaohpnaaGreat

namespace Go.Proofs.YtcoeneldaohpnaaGreat
open Go.RowKit
attribute [local go_sem ↓] Go.wp_at_zero Go.wp_at_succ
set_option maxRecDepth 100000 in
theorem lists_same (B:Nat) (x:List (List Int)) (u v:Value) (w:World) (hu:Mat B 26 3 w u x) (hv:Mat B 26 3 w v x) :
  Calls Tryz.prog 12 #[u,.int .i64 0,v,.int .i64 0] w fun x w'=>x=.returned (.bool true)∧Below w.heap.size w w':=by
 obtain ⟨uo,uc,rfl,_,_⟩:=mat_open hu
 obtain ⟨vo,vc,rfl,_,_⟩:=mat_open hv
 have HU:Hid (Mat B 26 3 w (.slice uo x.length uc) x):=hu
 have HV:Hid (Mat B 26 3 w (.slice vo x.length vc) x):=hv
 clear hu hv
 go_enter Tryz.func12,Tryz.ntmps12
 go_wp2_with fail
 refine (sameAll_any B x x _ _ w HU.out HV.out).mono ?_
 rintro e w' ⟨rfl,n,rfl⟩
 have hxx:(x == x)=true:=by simp
 rw [hxx]
 go_wp2
 go_ret
 exact ⟨rfl,⟨rfl,rfl,rfl,Nat.le_refl _,fun _ _=>rfl⟩⟩
theorem rowsD_last {d:Nat} {P:List (List Int)} (hP:Box d 100 P) (h1:1≤d) (h5:d≤5) {r:List Int} (hr:r∈rowsD P d):(r.getD d 0).natAbs≤1000000000000000000:=by
 have hr0:=hr
 unfold rowsD at hr
 obtain ⟨c,hc,hr⟩:=List.mem_flatMap.1 hr
 have hl:=chosen_row d P.length c hc
 have htl:(pks P [] c).length=d:=by rw [←hl]; simp [pks]
 have htm:∀x∈pks P [] c,x∈P:=pks_in fun q hq=>by
  obtain ⟨i,hi,rfl⟩:=List.mem_iff_getElem.1 hq
  have:=(chosen_mem d P.length c hc).1 i (by omega)
  simpa [hi] using this
 obtain ⟨σ,hσ,hnb,hre⟩:=rowT_form htl (Option.mem_toList.1 hr)
 have hal:=norm_len hnb
 have hbd:=norm_bd (diff_mx (fun x hx=>hP x (htm x hx)) h1 h5)
 have h0:(pks P [] c).getD 0 []∈P:=htm _ (by simp [show 0 < (pks P [] c).length by omega])
 have hsm:Sm (normL d (diffL (pks P [] c))) ((pks P [] c).getD 0 []):=⟨by rw [hal,(hP _ h0).1]; exact Nat.le_refl _,by rw [hal]; omega,hbd,fun z hz=>by have:=(hP _ h0).2 z hz; omega⟩
 have hd:=dot_small0 hsm
 have e:r.getD d 0=σ*dotL (normL d (diffL (pks P [] c))) ((pks P [] c).getD 0 []):=by
  rw [hre]
  have:=V_map (normL d (diffL (pks P [] c)) ++ [dotL (normL d (diffL (pks P [] c))) ((pks P [] c).getD 0 [])]) σ d
  simp only [V] at this
  rw [this,(row_app hal).2.2.1]
 rw [e,Int.natAbs_mul]
 generalize dotL (normL d (diffL (pks P [] c))) ((pks P [] c).getD 0 [])=q at *
 rcases hσ with rfl | rfl <;> simp <;> omega
end Go.Proofs.YtcoeneldaohpnaaGreat

namespace Go.Proofs.YtcoeneldaohpnaaGreat
open Go.RowKit
attribute [local go_sem ↓] Go.wp_at_zero Go.wp_at_succ
theorem diff_mx12 {d:Nat} {t:List (List Int)} (h:Box d 100 t) (h1:1≤d) (h5:d≤5):Mx d 200 (diffL t):=by
 refine ⟨fun r hr=>?_,fun r hr z hz=>?_,h5,h1,by decide,Nat.le_trans (fb_mono (by decide) h5) (by decide)⟩
 ·simp only [diffL,List.mem_map] at hr
  obtain ⟨x,hx,rfl⟩:=hr
  rw [subL_length]; exact (h x (List.mem_of_mem_drop hx)).1
 ·simp only [diffL,List.mem_map] at hr
  obtain ⟨x,hx,rfl⟩:=hr
  simp only [subL,List.mem_map,List.mem_range] at hz
  obtain ⟨i,hi,rfl⟩:=hz
  have h1:=(h x (List.mem_of_mem_drop hx)).2 (x.getD i 0) (by simp [hi])
  have h2 : -(100:Int)≤(t.getD 0 []).getD i 0∧(t.getD 0 []).getD i 0≤100:=by
   by_cases ht:0 < t.length
   ·have h3:=h (t.getD 0 []) (by simp [ht])
    by_cases hi2:i < (t.getD 0 []).length
    ·exact h3.2 _ (getD_mem hi2)
    ·rw [show (t.getD 0 []).getD i 0=0 by simp only [List.getD_eq_getElem?_getD]; rw [List.getElem?_eq_none (by simpa using hi2)]; rfl]; omega
   ·have:t=[]:=List.eq_nil_of_length_eq_zero (by omega)
    subst this; simp
  omega
theorem mu_12 {c:Nat} {m:List (List Int)} (hx:Mx c 200 m) (h4:c≤3) (hl:(pickL c m).length+1=c):∀z∈muL c (pickL c m),z.natAbs≤80000:=by
 intro z hz
 simp only [muL,List.mem_map,List.mem_range] at hz
 obtain ⟨k,hk,rfl⟩:=hz
 unfold Lin.mu
 rw [Int.natAbs_mul]
 have h2:(Lin.ngo k).natAbs=1:=by rw [ngo_mod]; by_cases e:k % 2=1 <;> simp [e]
 rw [h2,Nat.one_mul,fm_length]
 have h5:Lin.fb 200 2=80000:=by decide
 have m2:Lin.fb 200 (pickL c m).length≤Lin.fb 200 2:=fb_mono (by decide) (by omega)
 have hb:=Lin.od_bd (n:=(pickL c m).length) (B:=200) (Lin.cols (fm (pickL c m)) (Lin.skp k)) (fun _=>false) (fun r hr j hj=>by
  simp only [Lin.cols,fm,List.mem_map] at hr
  obtain ⟨_,⟨l,hl',rfl⟩,rfl⟩:=hr
  by_cases hi:Lin.skp k j < l.length
  ·exact hx.bd l (pickL_mem hl') _ (by simp [hi])
  ·simp only [List.getD_eq_getElem?_getD]; rw [List.getElem?_eq_none (by omega)]; simp) (by rw [Lin.cu_none]; simp [Lin.cols,fm])
 have hl2:(Lin.cols (fm (pickL c m)) (Lin.skp k)).length=(pickL c m).length:=by simp [Lin.cols,fm]
 rw [hl2] at hb
 omega
theorem norm_12 {c:Nat} {m:List (List Int)} (hx:Mx c 200 m) (h4:c≤3):∀z∈normL c m,z.natAbs≤80000:=by
 intro z hz
 unfold normL at hz
 split at hz
 ·rename_i hl
  exact upr_bd (low_bd (mu_12 hx h4 hl)) z hz
 ·simp at hz
theorem box_up {d:Nat} {P:List (List Int)} (h:Box d 100 P):Box d 100 P:=fun r hr=>⟨(h r hr).1,fun z hz=>by have:=(h r hr).2 z hz; omega⟩
theorem rowsD_12 {d:Nat} {P:List (List Int)} (hP:Box d 100 P) (h1:1≤d) (h4:d≤3) {r:List Int} (hr:r∈rowsD P d):∀z∈r.take d,z.natAbs≤80000:=by
 unfold rowsD at hr
 obtain ⟨c,hc,hr⟩:=List.mem_flatMap.1 hr
 have hl:=chosen_row d P.length c hc
 have htl:(pks P [] c).length=d:=by rw [←hl]; simp [pks]
 have htm:∀x∈pks P [] c,x∈P:=pks_in fun q hq=>by
  obtain ⟨i,hi,rfl⟩:=List.mem_iff_getElem.1 hq
  have:=(chosen_mem d P.length c hc).1 i (by omega)
  simpa [hi] using this
 obtain ⟨σ,hσ,hnb,hre⟩:=rowT_form htl (Option.mem_toList.1 hr)
 have hal:=norm_len hnb
 have hbd:=norm_12 (diff_mx12 (fun x hx=>hP x (htm x hx)) h1 (by omega)) h4
 intro z hz
 rw [hre,←List.map_take,(row_app hal).2.1] at hz
 obtain ⟨y,hy,rfl⟩:=List.mem_map.1 hz
 have:=hbd y hy
 rcases hσ with rfl | rfl
 ·rw [Int.one_mul]; exact this
 ·rw [Int.neg_mul,Int.one_mul,Int.natAbs_neg]; exact this
def onL (d:Nat) (s:List (List Int)) (x:List Int):List (List Int):=(s.filter fun r=>decide (overL r x=0)).map fun r=>r.take d
theorem onL_snoc {d:Nat} {s:List (List Int)} {x:List Int} {j:Nat} (hj:j < s.length):onL d (s.take (j+1)) x=onL d (s.take j) x ++ (if overL (s.getD j []) x=0 then [(s.getD j []).take d] else []):=by
 have e:s.getD j []=s[j]:=by simp [hj]
 unfold onL
 rw [List.take_succ_eq_append_getElem hj,List.filter_append,List.map_append,e]
 by_cases h:overL s[j] x=0 <;> simp [h]
theorem onL_len (d:Nat) (s:List (List Int)) (x:List Int):(onL d s x).length≤s.length:=by
 unfold onL
 rw [List.length_map]
 exact List.length_filter_le _ _
theorem onL_mx {d:Nat} {P s:List (List Int)} (hP:Box d 100 P) (h1:1≤d) (h4:d≤3) (hs:∀r∈s,r∈rowsD P d) (x:List Int):Mx d 80000 (onL d s x):=by
 have hmem:∀r∈onL d s x,∃q∈rowsD P d,r=q.take d:=fun r hr=>by
  obtain ⟨q,hq,rfl⟩:=List.mem_map.1 hr
  exact ⟨q,hs q (List.mem_filter.1 hq).1,rfl⟩
 refine ⟨fun r hr=>?_,fun r hr=>?_,by omega,h1,by decide,Nat.le_trans (fb_mono (by decide) h4) (by decide)⟩
 ·obtain ⟨q,hq,rfl⟩:=hmem r hr
  have:=(rowsD_facts (box_up hP) h1 (by omega) q hq).len
  rw [List.length_take]; omega
 ·obtain ⟨q,hq,rfl⟩:=hmem r hr
  exact rowsD_12 hP h1 h4 hq
theorem nodup_lenL:∀s t:List (List Int),s.Nodup→(∀r∈s,r∈t)→s.length≤t.length
 | [],_,_,_=>by simp
 | a :: s,t,hn,h=>by
  obtain ⟨h1,h2⟩:=List.nodup_cons.1 hn
  have ha:=h a (by simp)
  have ih:=nodup_lenL s (t.erase a) h2 fun r hr=>(List.mem_erase_of_ne (fun e=>h1 (by rw [←e]; exact hr))).2 (h r (by simp [hr]))
  rw [List.length_erase_of_mem ha] at ih
  have:=List.length_pos_of_mem ha
  simp
  omega
theorem SAsc.nodup {s:List (List Int)} (h:SAsc s):s.Nodup:=
 List.Pairwise.imp (fun {a b} hab e=>by
  subst e
  rw [cmpL_self] at hab
  omega) h
theorem rowsD_len {d:Nat} {P s:List (List Int)} (hd:d≤4) (hP:P.length≤64) (hs:SAsc s) (hm:∀r,r∈s↔r∈rowsD P d):s.length≤16777216:=by
 have h1:=nodup_lenL s (rowsD P d) hs.nodup fun r hr=>(hm r).1 hr
 have h2:(rowsD P d).length≤(chosenL d P.length).length:=by
  have h:=rowsTo_len P (chosenL d P.length) (chosenL d P.length).length
  unfold rowsTo at h
  rw [List.take_length] at h
  exact h
 have h3:(chosenL d P.length).length≤16777216:=Nat.le_trans (chosen_len d P.length (by omega)) (Nat.le_trans (Nat.pow_le_pow_right (by decide) hd) (by decide))
 omega
def crn (d:Nat) (s P:List (List Int)):List (List Int):=P.filter fun x=>decide ((pickL d (onL d s x)).length=d)
theorem crn_snoc {d:Nat} {s P:List (List Int)} {k:Nat} (hk:k < P.length):crn d s (P.take (k+1))=crn d s (P.take k) ++ (if (pickL d (onL d s (P.getD k []))).length=d then [P.getD k []] else []):=by
 have e:P.getD k []=P[k]:=by simp [hk]
 unfold crn
 rw [List.take_succ_eq_append_getElem hk,List.filter_append,e]
 by_cases h:(pickL d (onL d s P[k])).length=d <;> simp [h]
set_option maxRecDepth 100000 in
set_option maxHeartbeats 1600000 in
theorem cornersOf_any (B d:Nat) (P:List (List Int)) (v:Value) (w:World) (hv:Mat B 26 3 w v P) (hd1:1≤d) (hd:d≤3) (hP1:1≤P.length) (hP:P.length≤64) (hx:Box d 100 P) :
  Calls Tryz.prog 6 #[v] w fun e w'=>∃x c s,e=.returned x∧Fr w.heap.size 26 3 w' x c∧SAsc c∧SAsc s∧(∀r,r∈s↔r∈rowsD P d)∧(∀y,y∈c↔y∈crn d s P)∧Below w.heap.size w w':=by
 obtain ⟨i0,hi,hz0,hz1,hz2⟩:=info_parts Tryz.info26
 obtain ⟨b,o,cap,r0,hvv,hlc,hcc,hr0⟩:=mat_cell hv (k:=0) (by omega)
 subst hvv
 have HV:Hid (Mat w.heap.size 26 3 w (.slice (some ⟨b,o,none⟩) P.length cap) P):=hv.any (Nat.le_refl _)
 have HX:Hid (Box d 100 P):=hx
 have hm0:P.getD 0 []∈P:=by simp [show 0 < P.length by omega]
 obtain ⟨ro,rc,hrv,hrl,_⟩:=sl_open hr0
 rw [(hx _ hm0).1] at hrv hrl
 subst hrv
 have hcc0:w.cell? ⟨b,o,none⟩=some (.slice ro d rc):=hcc
 clear hv hx hr0 hm0 hrl hcc
 have HRO:Hid (Calls Tryz.prog 16 #[.slice (some ⟨b,o,none⟩) P.length cap] w fun e w'=>∃x s,e=.returned x∧Fr w.heap.size 26 3 w' x s∧SAsc s∧(∀r,r∈s↔r∈rowsD P d)∧Below w.heap.size w w'):=rowsOf_any w.heap.size d P _ w HV.out hd1 (by omega) hP1 hP (box_up HX.out)
 obtain ⟨n,hn⟩:∃n,n=P.length:=⟨_,rfl⟩
 have HN:Hid (n=P.length):=hn
 rw [←hn] at HV HRO hP1 hP hlc ⊢
 clear hn
 have h0I:(0:Int) < (n:Int):=by omega
 have h0N:0 < n:=by omega
 go_enter Tryz.func6,Tryz.ntmps6
 go_wp2_with fail
 refine HRO.out.mono ?_
 rintro e w1 ⟨sv,s,rfl,hf,hsa,hm,hb⟩
 have HF:Hid (Fr w.heap.size 26 3 w1 sv s):=hf
 have HSA:Hid (SAsc s):=hsa
 have HM:Hid (∀r,r∈s↔r∈rowsD P d):=hm
 have HB1:Hid (Below w.heap.size w w1):=hb
 have hsz1:w.heap.size≤w1.heap.size:=hb.size
 obtain ⟨so,sc,hsv,hsl1,hsl2⟩:=fr_open hf
 subst hsv
 have HSL:Hid (s.length≤16777216):=rowsD_len (by omega) (by rw [←HN.out]; exact hP) hsa hm
 have hcc1:w1.cell? ⟨b,o,none⟩=some (.slice ro d rc):=(hb.cell (lt_of_cell hcc0)).trans hcc0
 clear hf hsa hm hb hcc0 HRO
 go_wp2
 go_loopw [5,6] (fun x i wr=>∃k:Nat,k≤n∧i=.int .i64 k∧Rws w1.heap.size 26 3 wr x (crn d s (P.take k))∧Below w1.heap.size w1 wr) (fun _ i _=>n-(intOf i).toNat)
 case atStart=>exact ⟨0,Nat.zero_le _,rfl,Rws.nil _ _ _ _,Below.refl _ _⟩
 case round=>
  obtain ⟨k,hk,rfl,hfr,hbel⟩:=hrel
  rename World=>wa
  have HFA:Hid (Rws w1.heap.size 26 3 wa u5 (crn d s (P.take k))):=hfr
  have HB:Hid (Below w1.heap.size w1 wa):=hbel
  have HBa:Hid (Below w.heap.size w wa):=HB1.out.trans (hbel.mono hsz1)
  have hsza:w1.heap.size≤wa.heap.size:=hbel.size
  clear hfr hbel
  by_cases hlt:k < n
  ·have hkP:k < P.length:=by rw [←HN.out]; exact hlt
   have hmem:P.getD k []∈P:=by simp [hkP]
   have HCS:Hid (crn d s (P.take (k+1))=crn d s (P.take k) ++ (if (pickL d (onL d s (P.getD k []))).length=d then [P.getD k []] else [])):=crn_snoc hkP
   obtain ⟨b4,o4,cp4,xv,hs4,_,hcc4,hx4⟩:=mat_cell HV.out hkP
   simp only [Value.slice.injEq,Option.some.injEq,Addr.mk.injEq,and_true] at hs4
   obtain ⟨⟨rfl,rfl⟩,hxx,rfl⟩:=hs4
   clear hxx
   have HXB:Hid ((P.getD k []).length=d∧∀z∈P.getD k [],z.natAbs≤1000):=⟨(HX.out _ hmem).1,fun z hz=>by have:=(HX.out _ hmem).2 z hz; omega⟩
   have HXP:Hid (P.getD k []∈P):=hmem
   obtain ⟨xo,xc,hxe,_,_⟩:=sl_open hx4
   rw [HXB.out.1] at hxe
   subst hxe
   have HXS:Hid (∀W,Below w.heap.size w W→W.cell? ⟨b,o+k,none⟩=some (.slice xo d xc)∧Sl w.heap.size 3 W (.slice xo d xc) (ints (P.getD k []))):=fun W h=>⟨(h.cell (lt_of_cell hcc4)).trans hcc4,hx4.below h (Nat.le_refl _)⟩
   have HONM:Hid (Mx d 80000 (onL d s (P.getD k []))):=onL_mx HX.out hd1 hd (fun r hr=>(HM.out r).1 hr) _
   clear hmem hx4 hcc4
   generalize P.getD k []=y at *
   have HOV:Hid (∀r∈s,∀(wq:World) (rv:Value),Below w.heap.size w wq→Sl w.heap.size 3 wq rv (ints r)→∀nn,Calls Tryz.prog 17 #[rv,.slice xo d xc] (wq.drewN nn) fun e w'=>e=.returned (.int .i64 (overL r y))∧∃n,w'=(wq.drewN nn).drewN n):=fun r hr wq rv hq hs nn=>
    over_of (rowsD_facts (box_up HX.out) hd1 (by omega) r ((HM.out r).1 hr)) HXB.out.1 (rowsD_last (box_up HX.out) hd1 (by omega) ((HM.out r).1 hr)) (by omega) HXB.out.2 w.heap.size rv _ (wq.drewN nn) (hs.drewN nn) ((HXS.out wq hq).2.drewN nn)
   have hkI:(k:Int) < (n:Int):=by omega
   have hkI0:(0:Int)≤(k:Int):=by omega
   go_wp2
   go_loopw [7,8] (fun x i wq=>∃j:Nat,j≤s.length∧i=.int .i64 j∧Rws wa.heap.size 26 3 wq x (onL d (s.take j) y)∧Below wa.heap.size wa wq) (fun _ i _=>s.length-(intOf i).toNat)
   case atStart=>exact ⟨0,Nat.zero_le _,rfl,Rws.nil _ _ _ _,Below.refl _ _⟩
   case round=>
    obtain ⟨j,hj,rfl,hfr,hbel⟩:=hrel
    have HFS:Hid (Rws wa.heap.size 26 3 wr u7 (onL d (s.take j) y)):=hfr
    have HBS:Hid (Below wa.heap.size wa wr):=hbel
    have HB1r:Hid (Below w1.heap.size w1 wr):=HB.out.trans (hbel.mono hsza)
    have HBr:Hid (Below w.heap.size w wr):=HBa.out.trans (hbel.mono HBa.out.size)
    have hszr:wa.heap.size≤wr.heap.size:=hbel.size
    clear hfr hbel
    by_cases hjl:j < s.length
    ·obtain ⟨b2,o2,cp2,rv,hs2,_,hcc2,hr2⟩:=mat_cell ((HF.out.rws.mat (Nat.le_refl _)).below HB1r.out (Nat.le_refl _)) hjl
     simp only [Value.slice.injEq,true_and] at hs2
     obtain ⟨rfl,rfl⟩:=hs2
     have hmem:s.getD j []∈s:=by simp [hjl]
     have HON:Hid (onL d (s.take (j+1)) y=onL d (s.take j) y ++ (if overL (s.getD j []) y=0 then [(s.getD j []).take d] else [])):=onL_snoc hjl
     have HLE:Hid ((onL d (s.take j) y).length≤16777216):=by
      have h1:=onL_len d (s.take j) y
      have h2:=HSL.out
      rw [List.length_take] at h1
      show _≤_
      omega
     have hrl:=(rowsD_facts (box_up HX.out) hd1 (by omega) _ ((HM.out _).1 hmem)).len
     obtain ⟨qa,qc,hqe,hqc,_⟩:=sl_open hr2
     obtain ⟨qb,qo,qc',hqs,_,_⟩:=sl_cell hr2 (k:=0) (by rw [hrl]; omega)
     rw [hqe] at hqs
     simp only [Value.slice.injEq] at hqs
     obtain ⟨rfl,hxx,rfl⟩:=hqs
     clear hxx
     rw [hrl] at hqe hqc
     subst hqe
     have HCA:Hid (∀nn,Calls Tryz.prog 17 #[.slice (some ⟨qb,qo,none⟩) (d+1) qc,.slice xo d xc] (wr.drewN nn) fun e w'=>e=.returned (.int .i64 (overL (s.getD j []) y))∧∃n,w'=(wr.drewN nn).drewN n):=HOV.out _ hmem wr _ HBr.out hr2
     have HTK:Hid (Sl w.heap.size 3 wr (.slice (some ⟨qb,qo,none⟩) d qc) (ints ((s.getD j []).take d))):=by
      have h:=hr2
      rw [←hrl] at h
      exact Sl.take h (by omega)
     have hccX:=(HXS.out wr HBr.out).1
     clear hr2 hmem hrl
     generalize s.getD j []=r at *
     have hjI:(j:Int) < (s.length:Int):=by omega
     have hjI0:(0:Int)≤(j:Int):=by omega
     have hdc:d≤qc:=by omega
     have hdcI:(d:Int)≤(qc:Int):=by omega
     have hd0I:(0:Int)≤(d:Int):=by omega
     obtain ⟨z,hz⟩:∃z,z=overL r y:=⟨_,rfl⟩
     rw [←hz] at HCA HON
     clear hz
     go_wp2
     go_quiet ((go_at_call 17; exact Calls.quiet_of (w:=wr) (HCA.out _)))
     obtain ⟨Wq,hWq⟩:∃Wq,Wq=wr.drewN nq:=⟨_,rfl⟩
     rw [←hWq]
     have hbq:Below wr.heap.size wr Wq:=by rw [hWq]; exact ⟨rfl,rfl,rfl,Nat.le_refl _,fun _ _=>rfl⟩
     have hccq:Wq.cell? ⟨b2,o2+j,none⟩=some (.slice (some ⟨qb,qo,none⟩) (d+1) qc):=(hbq.cell (lt_of_cell hcc2)).trans hcc2
     have HFq:Hid (Rws wa.heap.size 26 3 Wq u7 (onL d (s.take j) y)):=HFS.out.below hbq (Nat.le_refl _)
     have HTq:Hid (Sl wa.heap.size 3 Wq (.slice (some ⟨qb,qo,none⟩) d qc) (ints (r.take d))):=(HTK.out.below hbq (Nat.le_refl _)).more HBa.out.size
     have HBq:Hid (Below wa.heap.size wa Wq):=HBS.out.trans (hbq.mono HBS.out.size)
     have hszq:wa.heap.size≤Wq.heap.size:=HBq.out.size
     clear hWq hbq hcc2 hccX HFS HTK HCA
     by_cases hzz:z=0
     ·subst hzz
      rw [if_pos rfl] at HON
      obtain ⟨vs,g1,g2,g3⟩:=HFq.out
      obtain ⟨ol,hol⟩:∃ol,ol=(onL d (s.take j) y).length:=⟨_,rfl⟩
      rw [←hol] at g1 g2 g3 HLE
      have HOL:Hid (ol=(onL d (s.take j) y).length):=hol
      have G1:Hid (vs.length=ol):=g1
      have G2:Hid (Wq.ownsRow wa.heap.size 26 1 u7 ol vs):=g2
      have G3:Hid (∀i,i < ol→Sl wa.heap.size 3 Wq (vs.getD i (.slice none 0 0)) (ints ((onL d (s.take j) y).getD i []))):=g3
      have hol2:ol≤16777216:=HLE.out
      clear g1 g2 g3 hol
      go_wp2_with (first | (at_builtin; refine wpList_append_own _ rfl _ _ 22 rfl wa.heap.size 26 i0 (.slice none 0 0) 1 24 Tryz.underlying22 hi hz0 hz1 hz2 rfl (by decide) _ _ _ rfl (G2.out.alloc _) ⟨Wq.heap.size,0,none⟩ 1 1 [.slice (some ⟨qb,qo,none⟩) d qc] rfl rfl (one_new _ _ _) (one_slice _ _ _) ?d3 ?d4 ?d5 ?_))
      case d3=>unfold maxLen; omega
      case d4=>omega
      case d5=>first | exact hszq | omega | (simp; omega)
      intro v' w3 ho hg _
      have R1:Hid (Rws wa.heap.size 26 3 w3 v' (onL d (s.take (j+1)) y)):=by
       have hp:=Rws.push (e2:=26) (e1:=3) (m:=onL d (s.take j) y) (u:=.slice (some ⟨qb,qo,none⟩) d qc) (zs:=r.take d) (by decide) (by rw [←HOL.out]; exact G1.out) (by rw [←HOL.out]; exact G2.out.alloc _)
        (fun i hi=>(G3.out i (by rw [←HOL.out] at hi; exact hi)).alloc _) (HTq.out.alloc _) (by rw [←HOL.out]; exact ho) hg
       rw [←HON.out] at hp
       exact hp
      have R2:Hid (Below wa.heap.size wa w3):=(HBq.out.alloc hszq _).grown hg (by simp; omega) (fun x hx=>(G2.out.lt x hx).1)
      clear ho hg
      go_wp2
      exact ⟨⟨j+1,hjl,by go_num,R1.out,R2.out⟩,by simp [intOf]; omega⟩
     ·have HON2:Hid (onL d (s.take (j+1)) y=onL d (s.take j) y):=by
       have h:=HON.out
       rw [if_neg hzz,List.append_nil] at h
       exact h
      have R1:Hid (Rws wa.heap.size 26 3 Wq u7 (onL d (s.take (j+1)) y)):=by rw [HON2.out]; exact HFq.out
      have tz:(z == 0)=false:=by simp [hzz]
      clear HON hzz
      go_wp2
      exact ⟨⟨j+1,hjl,by go_num,R1.out,HBq.out⟩,by simp [intOf]; omega⟩
    ·have HTE:Hid (s.take j=s):=List.take_of_length_le (by omega)
     have HON3:Hid (Mat wa.heap.size 26 3 wr u7 (onL d s y)):=by
      have h:=HFS.out
      rw [HTE.out] at h
      exact h.mat (Nat.le_refl _)
     have HRK:Hid (Calls Tryz.prog 15 #[u7] wr fun e w'=>e=.returned (.int .i64 ((pickL d (onL d s y)).length:Nat))∧Below wr.heap.size wr w'):=rankR_any d 80000 wa.heap.size (onL d s y) u7 wr HONM.out HON3.out (Nat.le_trans (onL_len d s y) HSL.out)
     obtain ⟨pk,hpk⟩:∃pk,pk=(pickL d (onL d s y)).length:=⟨_,rfl⟩
     have HPC:Hid (pk≤d):=by show _≤_; rw [hpk]; exact pickL_cap d _
     rw [←hpk] at HRK HCS
     have hpkd:pk≤d:=HPC.out
     clear hpk HON3 HFS HTE
     go_wp2_with fail
     refine HRK.out.mono ?_
     rintro e w9 ⟨rfl,hb9⟩
     have HB9a:Hid (Below wa.heap.size wa w9):=HBS.out.trans (hb9.mono HBS.out.size)
     have HB9:Hid (Below w1.heap.size w1 w9):=HB.out.trans (HB9a.out.mono hsza)
     have HF9:Hid (Rws w1.heap.size 26 3 w9 u5 (crn d s (P.take k))):=HFA.out.below HB9a.out (Nat.le_refl _)
     have hsz9:w1.heap.size≤w9.heap.size:=HB9.out.size
     have hx9:=(HXS.out w9 (HBr.out.trans (hb9.mono HBr.out.size))).1
     have HX9:Hid (Sl w1.heap.size 3 w9 (.slice xo d xc) (ints y)):=(HXS.out w9 (HBr.out.trans (hb9.mono HBr.out.size))).2.more hsz1
     clear hb9 HRK
     by_cases hpd:pk=d
     ·rw [if_pos hpd] at HCS
      have tp:((pk:Int) == (d:Int))=true:=by simp [hpd]
      obtain ⟨vs,g1,g2,g3⟩:=HF9.out
      obtain ⟨ol,hol⟩:∃ol,ol=(crn d s (P.take k)).length:=⟨_,rfl⟩
      have hol3:ol≤64:=by
       rw [hol]
       have:=List.length_filter_le (fun x=>decide ((pickL d (onL d s x)).length=d)) (P.take k)
       rw [List.length_take,←HN.out] at this
       unfold crn
       omega
      rw [←hol] at g1 g2 g3
      have HOL:Hid (ol=(crn d s (P.take k)).length):=hol
      have G1:Hid (vs.length=ol):=g1
      have G2:Hid (w9.ownsRow w1.heap.size 26 1 u5 ol vs):=g2
      have G3:Hid (∀i,i < ol→Sl w1.heap.size 3 w9 (vs.getD i (.slice none 0 0)) (ints ((crn d s (P.take k)).getD i []))):=g3
      clear g1 g2 g3 hol hpd
      go_wp2_with (first | (at_builtin; refine wpList_append_own _ rfl _ _ 22 rfl w1.heap.size 26 i0 (.slice none 0 0) 1 24 Tryz.underlying22 hi hz0 hz1 hz2 rfl (by decide) _ _ _ rfl (G2.out.alloc _) ⟨w9.heap.size,0,none⟩ 1 1 [.slice xo d xc] rfl rfl (one_new _ _ _) (one_slice _ _ _) ?d3 ?d4 ?d5 ?_))
      case d3=>unfold maxLen; omega
      case d4=>omega
      case d5=>first | exact hsz9 | omega | (simp; omega)
      intro v' w3 ho hg _
      have R1:Hid (Rws w1.heap.size 26 3 w3 v' (crn d s (P.take (k+1)))):=by
       have hp:=Rws.push (e2:=26) (e1:=3) (m:=crn d s (P.take k)) (u:=.slice xo d xc) (zs:=y) (by decide) (by rw [←HOL.out]; exact G1.out) (by rw [←HOL.out]; exact G2.out.alloc _)
        (fun i hi=>(G3.out i (by rw [←HOL.out] at hi; exact hi)).alloc _) (HX9.out.alloc _) (by rw [←HOL.out]; exact ho) hg
       rw [←HCS.out] at hp
       exact hp
      have R2:Hid (Below w1.heap.size w1 w3):=(HB9.out.alloc hsz9 _).grown hg (by simp; omega) (fun x hx=>(G2.out.lt x hx).1)
      clear ho hg
      go_wp2
      exact ⟨⟨k+1,hlt,by go_num,R1.out,R2.out⟩,by simp [intOf]; omega⟩
     ·have HCS2:Hid (crn d s (P.take (k+1))=crn d s (P.take k)):=by
       have h:=HCS.out
       rw [if_neg hpd,List.append_nil] at h
       exact h
      have R1:Hid (Rws w1.heap.size 26 3 w9 u5 (crn d s (P.take (k+1)))):=by rw [HCS2.out]; exact HF9.out
      have tp:((pk:Int) == (d:Int))=false:=by simp; omega
      clear HCS hpd
      go_wp2
      exact ⟨⟨k+1,hlt,by go_num,R1.out,HB9.out⟩,by simp [intOf]; omega⟩
  ·have HPT:Hid (P.take k=P):=List.take_of_length_le (by rw [←HN.out]; omega)
   have HCM:Hid (Mat w1.heap.size 26 3 wa u5 (crn d s P)):=by
    have h:=HFA.out
    rw [HPT.out] at h
    exact h.mat (Nat.le_refl _)
   have HCL:Hid ((crn d s P).length≤64):=by
    show _≤_
    have:=List.length_filter_le (fun x=>decide ((pickL d (onL d s x)).length=d)) P
    rw [←HN.out] at this
    unfold crn
    omega
   have HSO:Hid (Calls Tryz.prog 18 #[u5] wa fun e w'=>∃x c,e=.returned x∧(Fr wa.heap.size 26 3 w' x c∧SAsc c∧(∀r,r∈c↔r∈crn d s P)∧Below wa.heap.size wa w')):=
    (sortR_any w1.heap.size (crn d s P) u5 wa HCM.out (Nat.le_trans HCL.out (by decide)) (fun r hr=>by rw [(HX.out r (List.mem_filter.1 hr).1).1]; omega)).mono fun e w' ⟨x2,s2,e1,e2,e3,e4,e5⟩=>⟨x2,s2,e1,e2,e3,e4,e5⟩
   clear HCM HCL HPT HFA
   go_wp2_with fail
   refine HSO.out.mono ?_
   rintro e w2 ⟨x2,c,rfl,hx2⟩
   have HX2:Hid (Fr wa.heap.size 26 3 w2 x2 c∧SAsc c∧(∀r,r∈c↔r∈crn d s P)∧Below wa.heap.size wa w2):=hx2
   clear hx2
   go_wp2
   go_ret
   exact ⟨_,c,s,rfl,HX2.out.1.mono HBa.out.size,HX2.out.2.1,HSA.out,HM.out,HX2.out.2.2.1,HBa.out.trans (HX2.out.2.2.2.mono HBa.out.size)⟩
end Go.Proofs.YtcoeneldaohpnaaGreat
