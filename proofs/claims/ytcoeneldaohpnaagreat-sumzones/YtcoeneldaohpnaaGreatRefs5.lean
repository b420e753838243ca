import Derived.Test.YtcoeneldaohpnaaGreatRefs4
import Derived.Test.YtcoeneldaohpnaaGreatLinAll
namespace Go.Proofs.YtcoeneldaohpnaaGreat
open Go.RowKit
structure Mx (c Bd:Nat) (m:List (List Int)):Prop where
 row:∀r∈m,r.length=c
 bd:∀r∈m,∀z∈r,z.natAbs≤Bd
 c5:c≤5
 c1:1≤c
 pos:1≤Bd
 small:Lin.fb Bd c≤1152921504606846976
theorem chosen_mem:∀k n q,q∈chosenL k n→(∀i,i < k→0≤q.getD i 0∧q.getD i 0 < (n:Int))∧∀i j,i < j→j < k→q.getD i 0 < q.getD j 0:=by
 intro k
 induction k with
 | zero=>intro n q h; exact ⟨fun i hi=>by omega,fun i j _ hj=>by omega⟩
 | succ k ih=>
  intro n q h
  simp only [chosenL,List.mem_flatMap,List.mem_map,List.mem_range'_1] at h
  obtain ⟨v,hv,l,hl,rfl⟩:=h
  have hll:=chosen_row k v l hl
  obtain ⟨h1,h2⟩:=ih v l hl
  have e1:∀i,i < k→(l ++ [(v:Int)]).getD i 0=l.getD i 0:=by
   intro i hi; simp only [List.getD_eq_getElem?_getD]; rw [List.getElem?_append_left (by omega)]
  have e2:(l ++ [(v:Int)]).getD k 0=v:=by
   simp only [List.getD_eq_getElem?_getD]; rw [List.getElem?_append_right (by omega)]; simp [hll]
  refine ⟨fun i hi=>?_,fun i j hij hj=>?_⟩
  ·by_cases e:i < k
   ·rw [e1 i e]; have:=h1 i e; omega
   ·rw [show i=k by omega,e2]; omega
  ·by_cases e:j < k
   ·rw [e1 i (by omega),e1 j e]; exact h2 i j hij e
   ·rw [show j=k by omega,e2,e1 i (by omega)]; exact (h1 i (by omega)).2
theorem chosen_all:∀k n K,Lin.Rising k n K→((List.range k).map fun i=>(K i:Int))∈chosenL k n:=by
 intro k
 induction k with
 | zero=>intro n K _; simp [chosenL]
 | succ k ih=>
  intro n K h
  simp only [chosenL,List.mem_flatMap,List.mem_map,List.mem_range'_1]
  have hk:k≤K k:=by
   have:∀i,i < k+1→i≤K i:=by
    intro i
    induction i with
    | zero=>intro _; omega
    | succ i ii=>intro hi; have:=ii (by omega); have:=h.1 i (i+1) (by omega) hi; omega
   exact this k (by omega)
  refine ⟨K k,⟨hk,by have:=h.2 k (by omega); omega⟩,_,ih (K k) K ⟨fun i j hij hj=>h.1 i j hij (by omega),fun i hi=>h.1 i k hi (by omega)⟩,?_⟩
  simp [List.range_succ]
def freeL (c:Nat) (m:List (List Int)):Bool:=m.length == 0 || (decide (m.length≤c) && (chosenL m.length c).any fun q=>detL (colsL m q) != 0)
def toK (q:List Int):Nat→Nat:=fun i=>(q.getD i 0).toNat
theorem det_cols {m:List (List Int)} {q:List Int} (hq:q.length=m.length):detL (colsL m q)=Lin.od (fm m).length (Lin.cols (fm m) (toK q)) fun _=>false:=by
 unfold detL
 rw [colsL_length,show (fm m).length=m.length by simp [fm]]
 refine Lin.od_congr (by simp [fm,colsL,Lin.cols]) (fun i hi j hj=>?_) _
 have hi':i < m.length:=by simpa [fm,colsL] using hi
 simp [fm,colsL,Lin.cols,hi',toK,hq,hj]
theorem toK_rising {k n:Nat} {q:List Int} (h:q∈chosenL k n):Lin.Rising k n (toK q):=by
 obtain ⟨h1,h2⟩:=chosen_mem k n q h
 refine ⟨fun i j hij hj=>?_,fun i hi=>?_⟩
 ·have a1:=h1 i (by omega)
  have a2:=h2 i j hij hj
  unfold toK; omega
 ·have a1:=h1 i hi
  unfold toK; omega
theorem freeL_iff {c:Nat} {m:List (List Int)} : freeL c m=true↔Lin.FreeP c (fm m):=by
 have hfl:(fm m).length=m.length:=by simp [fm]
 constructor
 ·intro h
  simp only [freeL,Bool.or_eq_true,beq_iff_eq,Bool.and_eq_true,decide_eq_true_eq,List.any_eq_true] at h
  rcases h with h | ⟨_,q,hq,hd⟩
  ·have:m=[]:=List.eq_nil_of_length_eq_zero h
   subst this
   exact ⟨id,⟨fun _ _ _ h=>absurd h (by simp [fm]),fun _ h=>absurd h (by simp [fm])⟩,by simp [fm,Lin.cols,Lin.od]⟩
  ·refine ⟨toK q,by rw [hfl]; exact toK_rising hq,?_⟩
   rw [←det_cols (chosen_row _ _ _ hq)]
   simpa using hd
 ·rintro ⟨K,hK,hod⟩
  rw [hfl] at hK
  simp only [freeL,Bool.or_eq_true,beq_iff_eq,Bool.and_eq_true,decide_eq_true_eq,List.any_eq_true]
  right
  have hle:m.length≤c:=by
   by_cases h0:m.length=0
   ·omega
   ·have:∀i,i < m.length→i≤K i:=by
     intro i
     induction i with
     | zero=>intro _; omega
     | succ i ii=>intro hi; have:=ii (by omega); have:=hK.1 i (i+1) (by omega) hi; omega
    have a1:=this (m.length-1) (by omega)
    have a2:=hK.2 (m.length-1) (by omega)
    omega
  refine ⟨hle,_,chosen_all _ _ K hK,?_⟩
  rw [det_cols (by simp)]
  have e:Lin.od (fm m).length (Lin.cols (fm m) (toK ((List.range m.length).map fun i=>(K i:Int)))) (fun _=>false)=Lin.od (fm m).length (Lin.cols (fm m) K) (fun _=>false):=by
   refine Lin.od_congr (by simp [Lin.cols]) (fun i hi j hj=>?_) _
   have hi':i < m.length:=by simpa [Lin.cols,fm] using hi
   have hj':j < m.length:=by rw [hfl] at hj; exact hj
   simp [Lin.cols,fm,hi',toK,hj']
  rw [e]
  simpa using hod
theorem sq_cols {c Bd:Nat} {m:List (List Int)} {q:List Int} (h:Mx c Bd m) (hm:m.length≤c) (hq:q∈chosenL m.length c):Sq (colsL m q).length Bd (colsL m q):=by
 have hl:=chosen_row _ _ _ hq
 have hc5:=h.c5
 rw [colsL_length]
 refine ⟨colsL_length m q,fun r hr=>?_,fun r hr j hj=>?_,Nat.le_trans (fb_mono h.pos hm) h.small,by omega,h.pos⟩
 ·simp only [colsL,List.mem_map] at hr
  obtain ⟨r',_,rfl⟩:=hr
  simp [hl]
 ·simp only [colsL,List.mem_map] at hr
  obtain ⟨r',hr',rfl⟩:=hr
  have e:(q.map fun x=>r'.getD x.toNat 0).getD j 0=r'.getD (toK q j) 0:=by
   simp [toK,hl,hj]
  rw [e]
  have hlt:=(toK_rising hq).2 j hj
  have:r'.getD (toK q j) 0∈r':=by
   have:toK q j < r'.length:=by rw [h.row r' hr']; exact hlt
   simp [this]
  exact h.bd r' hr' _ this
set_option maxRecDepth 100000 in
set_option maxHeartbeats 1600000 in
theorem free_any (c Bd B:Nat) (m:List (List Int)) (v:Value) (w:World) (hx:Mx c Bd m) (hm:Mat B 26 3 w v m) (hml:m.length≤1000) :
  Calls Tryz.prog 32 #[v] w fun e w'=>e=.returned (.bool (freeL c m))∧Below w.heap.size w w':=by
 obtain ⟨ao,cap,hvv,hlc,hcm⟩:=mat_open hm
 subst hvv
 have hc5:=hx.c5
 have HM:Hid (Mat B 26 3 w (.slice ao m.length cap) m):=hm
 have HX:Hid (Mx c Bd m):=hx
 by_cases h0:m.length=0
 ·have t0:((m.length:Int) == 0)=true:=by simp [h0]
  have hf:freeL c m=true:=by simp [freeL,h0]
  have HF:Hid (freeL c m=true):=hf
  clear hm hx h0 hf
  go_enter Tryz.func32,Tryz.ntmps32
  go_wp2
  go_ret
  exact ⟨ret_bool HF.out.symm,Below.refl _ _⟩
 ·have t0:((m.length:Int) == 0)=false:=beq_eq_false_iff_ne.2 (by omega)
  have hb0:(m.length == 0)=false:=beq_eq_false_iff_ne.2 h0
  have HB0:Hid ((m.length == 0)=false):=hb0
  have hpos:0 < m.length:=by omega
  clear hb0
  obtain ⟨b,o,cp,r1,hs,hc1,hcc,hr1⟩:=mat_cell hm (k:=0) (by omega)
  simp only [Value.slice.injEq] at hs
  obtain ⟨rfl,_,rfl⟩:=hs
  obtain ⟨ro,rc,hrv,hrc1,hrc2⟩:=sl_open hr1
  have hrl:(m.getD 0 []).length=c:=hx.row _ (by simp [show 0 < m.length by omega])
  rw [hrl] at hrv hrc1
  subst hrv
  rw [Nat.add_zero] at hcc
  clear hm hx hr1 hrl
  by_cases hle:c < m.length
  ·have hf:freeL c m=false:=by rw [freeL,HB0.out,decide_eq_false (by omega)]; rfl
   have HF:Hid (freeL c m=false):=hf
   clear hf h0
   go_enter Tryz.func32,Tryz.ntmps32
   go_wp2
   go_ret
   exact ⟨ret_bool HF.out.symm,Below.refl _ _⟩
  ·have hf:freeL c m=(chosenL m.length c).any fun q=>detL (colsL m q) != 0:=by rw [freeL,HB0.out,decide_eq_true (by omega)]; rfl
   have HF:Hid (freeL c m=(chosenL m.length c).any fun q=>detL (colsL m q) != 0):=hf
   have hm5:m.length≤5:=by omega
   have HMC:Hid (m.length≤c):=(show m.length≤c by omega)
   have tle:decide (c < m.length)=false:=decide_eq_false (by omega)
   clear hf h0
   go_enter Tryz.func32,Tryz.ntmps32
   go_wp2_with fail
   refine (chosen_any m.length hm5 c w (by omega)).mono ?_
   rintro e w1 ⟨cv,rfl,hfr,hb1⟩
   have HC:Hid (Mat w.heap.size 26 3 w1 cv (chosenL m.length c)):=hfr.rws.mat (Nat.le_refl _)
   have HB1:Hid (Below w.heap.size w w1):=hb1
   clear hfr hb1 hcc
   obtain ⟨co,cc,hcv,hcc1,hcc2⟩:=mat_open HC.out
   subst hcv
   go_wp2
   go_loopw [5] (fun i wr=>∃k:Nat,k≤(chosenL m.length c).length∧i=.int .i64 k∧((chosenL m.length c).take k).any (fun q=>detL (colsL m q) != 0)=false∧Below w1.heap.size w1 wr) (fun i _=>(chosenL m.length c).length-(intOf i).toNat)
   case atStart=>exact ⟨0,Nat.zero_le _,rfl,by simp,Below.refl _ _⟩
   case round=>
    obtain ⟨k,hk,rfl,hno,hbel⟩:=hrel
    have HN:Hid (((chosenL m.length c).take k).any (fun q=>detL (colsL m q) != 0)=false):=hno
    have HB:Hid (Below w1.heap.size w1 wr):=hbel
    clear hno hbel
    by_cases hlt:k < (chosenL m.length c).length
    ·obtain ⟨b2,o2,cp2,r2,hs2,hc2,hcc3,hr2⟩:=mat_cell (HC.out.below HB.out (Nat.le_refl _)) hlt
     simp only [Value.slice.injEq] at hs2
     obtain ⟨rfl,_,rfl⟩:=hs2
     obtain ⟨q,hq⟩:∃q,q=(chosenL m.length c).getD k []:=⟨_,rfl⟩
     have hqm:q∈chosenL m.length c:=by rw [hq]; simp [hlt]
     have HQM:Hid (q∈chosenL m.length c):=hqm
     have HQK:Hid (q=(chosenL m.length c).getD k []):=hq
     rw [←hq] at hr2
     have HR2:Hid (Sl w.heap.size 3 wr r2 (ints q)):=hr2
     have HMr:Hid (Mat w.heap.size 26 3 wr (.slice (some ⟨b,o,none⟩) m.length cap) m):=((HM.out.any (Nat.le_refl _)).below HB1.out (Nat.le_refl _)).below HB.out (Nat.le_refl _)
     clear hq hqm hr2
     go_wp2_with fail
     refine (columns_any w.heap.size m q _ _ wr HMr.out HR2.out (by omega) (by rw [chosen_row _ _ _ HQM.out]; omega) ?_).mono ?_
     ·intro x hx
      obtain ⟨i,hi,rfl⟩:=List.mem_iff_getElem.1 hx
      have hh:=(chosen_mem _ _ _ HQM.out).1 i (by rw [←chosen_row _ _ _ HQM.out]; exact hi)
      have e:q.getD i 0=q[i]:=by simp [hi]
      rw [e] at hh
      exact ⟨hh.1,fun r hr=>by rw [HX.out.row r hr]; exact hh.2⟩
     rintro e w2 ⟨xv,rfl,hrw,hb2⟩
     have HXV:Hid (Mat wr.heap.size 26 3 w2 xv (colsL m q)):=hrw.mat (Nat.le_refl _)
     have HB2:Hid (Below wr.heap.size wr w2):=hb2
     clear hrw hb2
     go_wp2_with fail
     refine (det_any Bd wr.heap.size (colsL m q) xv w2 (sq_cols HX.out HMC.out HQM.out) HXV.out).mono ?_
     rintro e w3 ⟨rfl,hb3⟩
     have HB3:Hid (Below w1.heap.size w1 w3):=(HB.out.trans (HB2.out.mono (HB.out.size))).trans (hb3.mono (Nat.le_trans HB.out.size HB2.out.size))
     clear hb3
     have hsn:((chosenL m.length c).take (k+1)).any (fun q=>detL (colsL m q) != 0)=(detL (colsL m q) != 0):=by
      rw [List.take_succ_eq_append_getElem hlt,List.any_append,HN.out,HQK.out]; simp [hlt]
     have HSN:Hid (((chosenL m.length c).take (k+1)).any (fun q=>detL (colsL m q) != 0)=(detL (colsL m q) != 0)):=hsn
     clear hsn
     generalize detL (colsL m q)=D at *
     by_cases hD:D=0
     ·have hDb:(D != 0)=false:=by simp [hD]
      clear hD
      go_wp2
      go_roundw
      case rel=>exact ⟨k+1,by omega,by go_num,by rw [HSN.out,hDb],HB3.out⟩
      case measure=>simp [intOf]; omega
     ·have hDb:(D != 0)=true:=by simp [hD]
      clear hD
      go_wp2
      go_ret
      refine ⟨ret_bool (Eq.symm ?_),HB1.out.trans (HB3.out.mono HB1.out.size)⟩
      rw [HF.out]
      have h1:=HSN.out
      rw [hDb] at h1
      obtain ⟨x,hx1,hx2⟩:=List.any_eq_true.1 h1
      exact List.any_eq_true.2 ⟨x,List.mem_of_mem_take hx1,hx2⟩
    ·go_wp2
     go_ret
     refine ⟨ret_bool (Eq.symm ?_),HB1.out.trans (HB.out.mono HB1.out.size)⟩
     rw [HF.out,←HN.out,List.take_of_length_le (by omega)]
end Go.Proofs.YtcoeneldaohpnaaGreat
