import Derived.Test.YtbdacimjebaihaaGreatHf1
import Derived.Test.YtbdacimjebaihaaGreatWiA
namespace Go.Proofs.YtbdacimjebaihaaGreat
open Go.RowKit
attribute [local go_sem ↓] Go.wp_at_zero Go.wp_at_succ
def mtP (d:Nat) (t:List (List Int)):List Int:=if 0 < (normL (d+1) t).getD d 0 then (normL (d+1) t).map fun z=>-z else normL (d+1) t
def mtL (d:Nat) (t:List (List Int)):List Int:=ngR d (mtP d t)
def mtB (d:Nat) (t:List (List Int)):Bool:=normB (d+1) t && !((normL (d+1) t).getD d 0 == 0)
theorem mtP_len {d:Nat} {t:List (List Int)} (h:normB (d+1) t=true):(mtP d t).length=d+1:=by
 unfold mtP
 split <;> simp [norm_len h]
theorem own_lower {B B' n:Nat} {e:TypeId} {w:World} {v:Value} {xs:List Value} (h:w.ownsRow B e 1 v n xs) (hB:B'≤B):w.ownsRow B' e 1 v n xs:=by
 obtain ⟨h1,h2⟩:=h
 refine ⟨h1,?_⟩
 rcases h2 with h2 | ⟨g,cap,cur,hu,hg,hr⟩
 ·exact .inl h2
 ·exact .inr ⟨g,cap,cur,hu,Nat.le_trans hB hg,hr⟩
set_option maxRecDepth 100000 in
set_option maxHeartbeats 1600000 in
theorem meetingH_any (B d:Nat) (t:List (List Int)) (v:Value) (w:World) (hx:Mx (d+1) 60 t) (hv:Mat B 22 3 w v t) (hm:t.length≤500) (hm0:1≤t.length) :
  Calls Tryz.prog 51 #[v,.int .i64 d] w fun e w'=>∃xo xl xc,e=.returned (.tuple #[.slice xo xl xc,.bool (mtB d t)])∧(mtB d t=true→xl=d+1∧Sl 0 3 w' (.slice xo xl xc) (ints (mtL d t))∧∃a,xo=some a∧w.heap.size≤a.block)∧Below w.heap.size w w':=by
 have h:=normalP_own B (d+1) t v w hx hv hm hm0
 rw [show ((d+1:Nat):Int)=(d:Int)+1 by omega] at h
 have HNO:Hid (Calls Tryz.prog 74 #[v,.int .i64 ((d:Int)+1)] w fun e w'=>∃x,e=.returned (.tuple #[x,.bool (normB (d+1) t)])∧w'.ownsRow w.heap.size 3 1 x (normL (d+1) t).length (ints (normL (d+1) t))∧Below w.heap.size w w'):=h
 have HBD:Hid (∀z∈normL (d+1) t,z.natAbs≤1000000000000):=norm_bd hx
 have hc5:=hx.c5
 have HLEN:Hid (normB (d+1) t=true→(normL (d+1) t).length=d+1):=norm_len
 have HML:Hid (mtL d t=ngR d (if 0 < (normL (d+1) t).getD d 0 then (normL (d+1) t).map (fun z=>-z) else normL (d+1) t)):=rfl
 have HMB:Hid (mtB d t=(normB (d+1) t && !((normL (d+1) t).getD d 0 == 0))):=rfl
 obtain ⟨vo,vc,hvv,_,_⟩:=mat_open hv
 subst hvv
 clear h hx hv hm hm0
 generalize mtL d t=L at *
 generalize mtB d t=b at *
 generalize normB (d+1) t=nb at *
 generalize normL (d+1) t=n at *
 go_enter Tryz.func51,Tryz.ntmps51
 go_wp2_with fail
 refine HNO.out.mono ?_
 rintro e w1 ⟨x,rfl,ho,hb1⟩
 have HB1:Hid (Below w.heap.size w w1):=hb1
 clear HNO hb1
 cases nb
 case false=>
  have HBF:Hid (b=false):=by show _=_; rw [HMB.out]; rfl
  obtain ⟨xo,xc,rfl⟩:=owns_form ho
  clear ho
  go_wp2
  exact bodyPost_ret (v:=.tuple #[.slice none 0 0,.bool false]) (by simp [results,Tryz.results51,go_sem]) rfl ⟨none,0,0,by rw [HBF.out],fun h=>(by rw [HBF.out] at h; cases h),HB1.out⟩
 case true=>
  have hl:=HLEN.out rfl
  rw [hl] at ho
  have HO1:Hid (w1.ownsRow w.heap.size 3 1 x (d+1) (ints n)):=ho
  obtain ⟨nb,no,nc,hnv,hnc,hxd⟩:=sl_cell (Sl.own (B:=0) ho) (k:=d) (by rw [hl]; omega)
  rw [hl] at hnv
  subst hnv
  have hzb:=HBD.out (n.getD d 0) (getD_mem (by rw [hl]; omega))
  have HNL:Hid (n.length=d+1):=hl
  have hdI:(d:Int) < (d:Int)+1:=by omega
  have hdI0:(0:Int)≤(d:Int):=by omega
  clear ho hl
  by_cases h0:n.getD d 0=0
  ·have HBF:Hid (b=false):=by show _=_; rw [HMB.out,h0]; rfl
   rw [h0] at hxd
   clear h0 hzb
   go_wp2
   exact bodyPost_ret (v:=.tuple #[.slice none 0 0,.bool false]) (by simp [results,Tryz.results51,go_sem]) rfl ⟨none,0,0,by rw [HBF.out],fun h=>(by rw [HBF.out] at h; cases h),HB1.out⟩
  ·have HBT:Hid (b=true):=by show _=_; rw [HMB.out]; simp; simpa using h0
   have h0b:(n.getD d 0 == 0)=false:=by simpa using h0
   by_cases hp:0 < n.getD d 0
   case' pos=>
    have HLL:Hid (L=ngR d (n.map fun z=>-z)):=by show _=_; rw [HML.out,if_pos hp]
    have hpb:decide (0 < n.getD d 0)=true:=decide_eq_true hp
    have HNG:Hid (Calls Tryz.prog 28 #[.slice (some ⟨nb,no,none⟩) (d+1) nc] w1 fun e w'=>∃u,e=.returned u∧w'.ownsRow w1.heap.size 3 1 u (d+1) (ints (n.map fun z=>-z))∧Below w1.heap.size w1 w'):=by
     have h:=negated_own 0 n (.slice (some ⟨nb,no,none⟩) (d+1) nc) w1 (Sl.own HO1.out) (by rw [HNL.out]; omega) (fun z hz=>by have:=HBD.out z hz; omega)
     rw [HNL.out] at h
     exact h
    generalize n.getD d 0=nd at *
    go_wp2_with fail
    refine HNG.out.mono ?_
    rintro e W6 ⟨u,rfl,ho6,hb6⟩
    obtain ⟨p,hpe⟩:∃p,p=n.map fun z=>-z:=⟨_,rfl⟩
    rw [←hpe] at HLL ho6
    have HPL:Hid (p.length=d+1):=by show _=_; rw [hpe,List.length_map,HNL.out]
    have HPB:Hid (∀z∈p,z.natAbs≤1000000000000):=fun z hz=>by
     rw [hpe] at hz
     obtain ⟨y,hy,rfl⟩:=List.mem_map.1 hz
     have:=HBD.out y hy; omega
    have HO6:Hid (W6.ownsRow w.heap.size 3 1 u (d+1) (ints p)):=own_lower ho6 HB1.out.size
    have HB6:Hid (Below w.heap.size w W6):=HB1.out.trans (hb6.mono HB1.out.size)
    clear ho6 hb6 hxd HNG HO1 hpe
   case' neg=>
    have HLL:Hid (L=ngR d n):=by show _=_; rw [HML.out,if_neg hp]
    have hpb:decide (0 < n.getD d 0)=false:=decide_eq_false hp
    obtain ⟨p,hpe⟩:∃p,p=n:=⟨_,rfl⟩
    obtain ⟨u,hu⟩:∃u,u=Value.slice (some (⟨nb,no,none⟩:Addr)) (d+1) nc:=⟨_,rfl⟩
    have HPL:Hid (p.length=d+1):=by show _=_; rw [hpe]; exact HNL.out
    have HPB:Hid (∀z∈p,z.natAbs≤1000000000000):=by rw [hpe]; exact HBD.out
    have HO6:Hid (w1.ownsRow w.heap.size 3 1 u (d+1) (ints p)):=by rw [hu,hpe]; exact HO1.out
    have HB6:Hid (Below w.heap.size w w1):=HB1.out
    rw [←hpe] at HLL
    generalize n.getD d 0=nd at *
    go_upto_region 6 with fail
    rw [←hu]
    obtain ⟨W6,rfl⟩:∃W6,W6=w1:=⟨_,rfl⟩
    clear hxd HO1 hpe hu
   all_goals
    obtain ⟨gb,gc,F,hu,hg,hrow,hF,hgn,hgm⟩:=own_rw HO6.out (by omega)
    subst hu
    have ca:=hrow.cell (i:=d) (by omega)
    have cf:=hrow.frozen d
    rw [hF d (by omega)] at ca
    have hzb2:=HPB.out (p.getD d 0) (getD_mem (by rw [HPL.out]; omega))
    have HSL:Hid (Sl 0 3 (W6.setCell ⟨gb,d,none⟩ (.int .i64 (-(p.getD d 0)))) (.slice (some ⟨gb,0,none⟩) (d+1) gc) (ints L)):=by
     rw [HLL.out]
     refine row_slT (hrow.set d _) (fun i hi=>?_) (ngR_len HPL.out) hgn hgm
     show (if i=d then Value.int .i64 (-(p.getD d 0)) else F i)=_
     rw [ngR_get HPL.out hi]
     by_cases e:i=d
     ·rw [if_pos e,if_pos e]
     ·rw [if_neg e,if_neg e,hF i hi]
    have HBE:Hid (Below w.heap.size w (W6.setCell ⟨gb,d,none⟩ (.int .i64 (-(p.getD d 0))))):=HB6.out.setCell hg _
    have HGG:Hid (w.heap.size≤gb):=hg
    generalize p.getD d 0=z at *
    have hnz:wrap64 (-z)=-z:=IntWalk.wrap64_in _ ⟨by omega,by omega⟩
    clear hrow hF
    go_wp2
    exact bodyPost_ret (v:=.tuple #[.slice (some ⟨gb,0,none⟩) (d+1) gc,.bool true]) (by simp [results,Tryz.results51,go_sem]) rfl ⟨_,_,_,by rw [HBT.out],fun _=>⟨rfl,HSL.out,_,rfl,HGG.out⟩,HBE.out⟩
end Go.Proofs.YtbdacimjebaihaaGreat
namespace Go.Proofs.YtbdacimjebaihaaGreat
open Go.RowKit
attribute [local go_sem ↓] Go.wp_at_zero Go.wp_at_succ
def axG (d i:Nat) (s:Int):List Int:=(List.range d).map fun j=>if j=i then s else 0
theorem axG_len (d i:Nat) (s:Int):(axG d i s).length=d:=by simp [axG]
theorem axG_neg (d i:Nat):(axG d i 1).map (fun z=>-z)=axG d i (-1):=by
 unfold axG
 rw [List.map_map]
 refine List.map_congr_left fun j _=>?_
 show -(if j=i then (1:Int) else 0)=_
 split <;> simp_all
theorem axG_bd {d i:Nat} {s:Int} (hs:s.natAbs≤1):∀z∈axG d i s,z.natAbs≤1:=fun z hz=>by
 simp only [axG,List.mem_map] at hz
 obtain ⟨j,_,rfl⟩:=hz
 split
 ·exact hs
 ·decide
def opI (d:Nat) (rows:List (List Int)) (i:Nat):Bool:=(waysL rows (axG d i 1)).isEmpty || (waysL rows (axG d i (-1))).isEmpty
def opB (d:Nat) (rows:List (List Int)):Bool:=(List.range d).any (opI d rows)
theorem ax_rowG {w:World} {d k:Nat} (hk:k < d) (hd:d≤100) {o:Obj} (ho:o=.cells ((madeCells #[.int .i64 0] d).setIfInBounds k (.int .i64 1)) 3):Sl 0 3 (w.alloc o) (.slice (some ⟨w.heap.size,0,none⟩) d d) (ints (axG d k 1)):=by
 subst ho
 have n3:=alloc_new w (.cells ((madeCells #[.int .i64 0] d).setIfInBounds k (.int .i64 1)) 3)
 have hgrow:(w.alloc (.cells ((madeCells #[.int .i64 0] d).setIfInBounds k (.int .i64 1)) 3)).rowIs w.heap.size 3 d (fun j=>if j=k then .int .i64 1 else .int .i64 0):=by
  refine ⟨_,n3,?_,fun i hi=>?_⟩
  ·simp only [Array.size_setIfInBounds]
   rw [←Array.length_toList,toList_madeCells_one]; simp
  ·rw [Array.getElem?_setIfInBounds]
   by_cases e:k=i
   ·subst e
    have hz:k < (madeCells #[.int .i64 0] d).size:=by rw [←Array.length_toList,toList_madeCells_one]; simpa using hk
    simp [hz]
   ·rw [if_neg e,←Array.getElem?_toList,toList_madeCells_one]
    simp [hi,show ¬i=k from fun h=>e h.symm]
 refine Sl.row' hgrow (by unfold maxLen; omega) (by simp [ints,axG]) (fun i hi=>?_)
 rw [ints_get _ _ (by rw [axG_len]; exact hi)]
 by_cases e:i=k
 ·subst e; simp [axG,hi]
 ·simp [axG,hi,e]
set_option maxRecDepth 100000 in
set_option maxHeartbeats 1600000 in
theorem isOpen_ok (d:Nat) (rows:List (List Int)) (v:Value) (w:World) (hv:Mat 0 22 3 w v rows) (hc:CutOk d rows) :
  Calls Tryz.prog 26 #[.agg #[.int .i64 d,v]] w fun e w'=>e=.returned (.bool (opB d rows))∧Below w.heap.size w w':=by
 obtain ⟨ro,rc,hvv,hlc,hcm⟩:=mat_open hv
 subst hvv
 obtain ⟨W,hW,hbW,hsW,hcW⟩:=cut_box w d (.slice ro rows.length rc)
 have HWW:Hid (W=w.alloc (.cells #[.int .i64 d,.slice ro rows.length rc] 41)):=hW
 have HBW:Hid (∀X,Below W.heap.size W X→Below w.heap.size w X):=fun X hX=>hbW.trans (hX.mono hbW.size)
 have HCC:Hid (∀X,Below W.heap.size W X→X.cell? ⟨w.heap.size,0,none⟩=some (.int .i64 d)∧X.cell? ⟨w.heap.size,1,none⟩=some (.slice ro rows.length rc)):=hcW
 have HRC:Hid (∀X,Below W.heap.size W X→∀(i:Nat) (s:Int) (go:Option Addr) (gc:Nat),s.natAbs≤1→Sl 0 3 X (.slice go d gc) (ints (axG d i s))→Calls Tryz.prog 50 #[.slice ro rows.length rc,.slice go d gc] X fun e w'=>e=.returned (.bool (!(waysL rows (axG d i s)).isEmpty))∧Below X.heap.size X w'):=fun X hX i s go gc hs hg=>
  reaches_any rows (axG d i s) _ _ X (hv.below (HBW.out X hX) (Nat.le_refl _)) hg (fun r hr=>⟨by rw [axG_len,hc.len r hr]; omega,fun z hz=>by have:=hc.bd r hr z hz; omega⟩) (fun z hz=>by have:=axG_bd hs z hz; omega) (by rw [axG_len]; exact hc.d1) (by rw [axG_len]; have:=hc.d3; omega) (by have:=hc.n12; omega)
 have hd1:=hc.d1
 have hd3:=hc.d3
 have hmk:=run_make_row' (P:=Tryz.prog) 22 3 (.int .i64 0) 8 Tryz.underlying22 Tryz.info3 rfl .i64 .i64 d (by omega) (by omega)
 obtain ⟨c0,c1⟩:=hcW W (Below.refl _ _)
 clear hv hc hW hbW hsW hcW
 go_enter Tryz.func26,Tryz.ntmps26
 go_upto_region 1 with fail
 rw [←HWW.out]
 go_wp2
 go_loopw [7] (fun i X=>∃k:Nat,k≤d∧i=.int .i64 k∧(∀j,j < k→opI d rows j=false)∧Below W.heap.size W X) (fun i _=>d-(intOf i).toNat)
 case atStart=>exact ⟨0,Nat.zero_le _,rfl,fun j hj=>by omega,Below.refl _ _⟩
 case round=>
  clear c0 c1
  obtain ⟨k,hk,rfl,hno,hb⟩:=hrel
  have HNO:Hid (∀j,j < k→opI d rows j=false):=hno
  have HB:Hid (Below W.heap.size W wr):=hb
  obtain ⟨c0,c1⟩:=HCC.out wr hb
  clear hno hb
  by_cases hlt:k < d
  ·have hkI:(k:Int) < (d:Int):=by omega
   have hkI0:(0:Int)≤(k:Int):=by omega
   have hmc:(madeCells #[.int .i64 0] d)[k]?=some (.int .i64 0):=by
    rw [←Array.getElem?_toList,toList_madeCells_one,List.getElem?_replicate,if_pos (by omega)]
   obtain ⟨W3,hW3⟩:∃W3,W3=wr.alloc (.cells ((madeCells #[.int .i64 0] d).setIfInBounds k (.int .i64 1)) 3):=⟨_,rfl⟩
   have hsl:Sl 0 3 W3 (.slice (some ⟨wr.heap.size,0,none⟩) d d) (ints (axG d k 1)):=by rw [hW3]; exact ax_rowG hlt (by omega) rfl
   have hb3:Below wr.heap.size wr W3:=by rw [hW3]; exact alloc_keep _ _
   have HB3:Hid (Below W.heap.size W W3):=HB.out.trans (hb3.mono HB.out.size)
   have HR1:Hid (∀X,Below W3.heap.size W3 X→Calls Tryz.prog 50 #[.slice ro rows.length rc,.slice (some ⟨wr.heap.size,0,none⟩) d d] X fun e w'=>e=.returned (.bool (!(waysL rows (axG d k 1)).isEmpty))∧Below X.heap.size X w'):=fun X hX=>HRC.out X (HB3.out.trans (hX.mono HB3.out.size)) k 1 _ _ (by decide) (hsl.below hX (Nat.le_refl _))
   have HN1:Hid (∀X,Below W3.heap.size W3 X→Calls Tryz.prog 28 #[.slice (some ⟨wr.heap.size,0,none⟩) d d] X fun e w'=>∃uo uc,e=.returned (.slice uo d uc)∧Sl 0 3 w' (.slice uo d uc) (ints (axG d k (-1)))∧Below X.heap.size X w'):=fun X hX=>by
    refine (negated_own 0 (axG d k 1) _ X (hsl.below hX (Nat.le_refl _)) (by rw [axG_len]; omega) (fun z hz=>by have:=axG_bd (s:=1) (by decide) z hz; omega)).mono ?_
    rintro e w' ⟨u,rfl,ho,hb⟩
    rw [axG_neg,axG_len] at ho
    obtain ⟨uo,uc,rfl⟩:=owns_form ho
    exact ⟨uo,uc,rfl,Sl.own ho,hb⟩
   have HS:Hid (∀X,Below W3.heap.size W3 X→X.cell? ⟨w.heap.size,1,none⟩=some (.slice ro rows.length rc)):=fun X hX=>(HCC.out X (HB3.out.trans (hX.mono HB3.out.size))).2
   have HW3:Hid (W3=wr.alloc (.cells ((madeCells #[.int .i64 0] d).setIfInBounds k (.int .i64 1)) 3)):=hW3
   have HNX:Hid (opI d rows k=((waysL rows (axG d k 1)).isEmpty || (waysL rows (axG d k (-1))).isEmpty)):=rfl
   have HHIT:Hid (opI d rows k=true→opB d rows=true):=fun h=>by
    unfold opB
    rw [List.any_eq_true]
    exact ⟨k,List.mem_range.2 hlt,h⟩
   have HGO:Hid (opI d rows k=false→∀j,j < k+1→opI d rows j=false):=fun h j hj=>by
    by_cases e:j=k
    ·rw [e]; exact h
    ·exact HNO.out j (by omega)
   have HR2:Hid (∀X uo uc,Below W3.heap.size W3 X→Sl 0 3 X (.slice uo d uc) (ints (axG d k (-1)))→Calls Tryz.prog 50 #[.slice ro rows.length rc,.slice uo d uc] X fun e w'=>e=.returned (.bool (!(waysL rows (axG d k (-1))).isEmpty))∧Below X.heap.size X w'):=fun X uo uc hX hg=>HRC.out X (HB3.out.trans (hX.mono HB3.out.size)) k (-1) uo uc (by decide) hg
   clear hsl hb3 hW3
   generalize (waysL rows (axG d k 1)).isEmpty=b1 at *
   generalize (waysL rows (axG d k (-1))).isEmpty=b2 at *
   go_upto_region 6 with fail
   rw [←HW3.out]
   clear hmc
   refine wp_region_held_drew (S:=fun X=>Below W3.heap.size W3 X∧X.cell? ⟨w.heap.size,1,none⟩=some (.slice ro rows.length rc)) (by kernel_rfl) ⟨(Below.refl _ _).drew,HS.out _ (Below.refl _ _).drew⟩ (fun hHeld=>?_)
   refine wpAnyH_tk (i:=0) (d:=16) (v:=(.pointer (some ⟨w.heap.size,1,none⟩))) rfl rfl (by kernel_rfl) (by kernel_rfl) (by kernel_rfl) (fun _ _ _ h=>h) (.inl ⟨by rfl,by (intro wq hSw; (try dsimp only at hSw); go_simp; (try (first | rfl | omega)))⟩) hHeld ?_
   simp only [Act.put,List.setIfInBounds_toArray,List.set_cons_zero,List.set_cons_succ]
   refine wpAnyH_tk (i:=1) (d:=17) (v:=(.slice ro rows.length rc)) rfl rfl (by kernel_rfl) (by kernel_rfl) (by kernel_rfl) (fun _ _ _ h=>h) (.inl ⟨by rfl,by (intro wq hSw; (try dsimp only at hSw); go_simp; (try (first | rfl | omega)))⟩) hHeld ?_
   simp only [Act.put,List.setIfInBounds_toArray,List.set_cons_zero,List.set_cons_succ]
   refine wpAnyH_tk (i:=2) (d:=18) (v:=(.slice (some ⟨wr.heap.size,0,none⟩) d d)) rfl rfl (by kernel_rfl) (by kernel_rfl) (by kernel_rfl) (fun _ _ _ h=>h) (.inl ⟨by rfl,by (intro wq hSw; (try dsimp only at hSw); go_simp; (try (first | rfl | omega)))⟩) hHeld ?_
   simp only [Act.put,List.setIfInBounds_toArray,List.set_cons_zero,List.set_cons_succ]
   refine wpAnyH_ready (rs:=[3]) (by kernel_rfl) (by simp) ?_
   refine ready_tk (i:=3) rfl (by rfl) (fun K hK=>?_) AllReadyH.nil
   go_simp
   refine (HR1.out W3.drew (Below.refl _ _).drew).mono ?_
   rintro e w5 ⟨rfl,hb5⟩
   have hb35:Below W3.heap.size W3 w5:=(Below.refl _ _).drew.trans hb5
   refine hK.out _ _ ⟨hb35,HS.out w5 hb35⟩ (fun hHeld=>?_)
   clear hK K
   cases b1
   ·skip
    refine wpAnyH_tk (i:=4) (d:=20) (v:=(.bool false)) rfl rfl (by kernel_rfl) (by kernel_rfl) (by kernel_rfl) (fun _ _ _ h=>h) (.inl ⟨by rfl,by (intro wq hSw; (try dsimp only at hSw); go_simp; (try (first | rfl | omega)))⟩) hHeld ?_
    simp only [Act.put,List.setIfInBounds_toArray,List.set_cons_zero,List.set_cons_succ]
    refine wpAnyH_tk (i:=5) (d:=21) (v:=(.bool false)) rfl rfl (by kernel_rfl) (by kernel_rfl) (by kernel_rfl) (fun _ _ _ h=>h) (.inl ⟨by rfl,by (intro wq hSw; (try dsimp only at hSw); go_simp; (try (first | rfl | omega)))⟩) hHeld ?_
    simp only [Act.put,List.setIfInBounds_toArray,List.set_cons_zero,List.set_cons_succ]
    refine wpAnyH_tk (i:=6) (d:=22) (v:=(.pointer (some ⟨w.heap.size,1,none⟩))) rfl rfl (by kernel_rfl) (by kernel_rfl) (by kernel_rfl) (fun _ _ _ h=>h) (.inl ⟨by rfl,by (intro wq hSw; (try dsimp only at hSw); go_simp; (try (first | rfl | omega)))⟩) hHeld ?_
    simp only [Act.put,List.setIfInBounds_toArray,List.set_cons_zero,List.set_cons_succ]
    refine wpAnyH_tk (i:=7) (d:=23) (v:=(.slice ro rows.length rc)) rfl rfl (by kernel_rfl) (by kernel_rfl) (by kernel_rfl) (fun _ _ _ h=>h) (.inl ⟨by rfl,by (intro wq hSw; (try dsimp only at hSw); go_simp; (try (first | rfl | omega)))⟩) hHeld ?_
    simp only [Act.put,List.setIfInBounds_toArray,List.set_cons_zero,List.set_cons_succ]
    refine wpAnyH_tk (i:=8) (d:=24) (v:=(.slice (some ⟨wr.heap.size,0,none⟩) d d)) rfl rfl (by kernel_rfl) (by kernel_rfl) (by kernel_rfl) (fun _ _ _ h=>h) (.inl ⟨by rfl,by (intro wq hSw; (try dsimp only at hSw); go_simp; (try (first | rfl | omega)))⟩) hHeld ?_
    simp only [Act.put,List.setIfInBounds_toArray,List.set_cons_zero,List.set_cons_succ]
    refine wpAnyH_ready (rs:=[9]) (by kernel_rfl) (by simp) ?_
    refine ready_tk (i:=9) rfl (by rfl) (fun K hK=>?_) AllReadyH.nil
    go_simp
    refine (HN1.out w5 hb35).mono ?_
    rintro e w6 ⟨uo,uc,rfl,hs6,hb6⟩
    have hb36:Below W3.heap.size W3 w6:=hb35.trans (hb6.mono hb35.size)
    refine hK.out _ _ ⟨hb36,HS.out w6 hb36⟩ (fun hHeld=>?_)
    clear hK K
    refine wpAnyH_ready (rs:=[10]) (by kernel_rfl) (by simp) ?_
    refine ready_tk (i:=10) rfl (by rfl) (fun K hK=>?_) AllReadyH.nil
    go_simp
    refine (HR2.out w6 uo uc hb36 hs6).mono ?_
    rintro e w7 ⟨rfl,hb7⟩
    have hb37:Below W3.heap.size W3 w7:=hb36.trans (hb7.mono hb36.size)
    refine hK.out _ _ ⟨hb37,HS.out w7 hb37⟩ (fun hHeld=>?_)
    clear hK K
    have HB7:Hid (Below W.heap.size W w7):=HB3.out.trans (hb37.mono HB3.out.size)
    cases b2
    ·skip
     refine wpAnyH_tk (i:=11) (d:=27) (v:=(.bool false)) rfl rfl (by kernel_rfl) (by kernel_rfl) (by kernel_rfl) (fun _ _ _ h=>h) (.inl ⟨by rfl,by (intro wq hSw; (try dsimp only at hSw); go_simp; (try (first | rfl | omega)))⟩) hHeld ?_
     simp only [Act.put,List.setIfInBounds_toArray,List.set_cons_zero,List.set_cons_succ]
     refine wpAnyH_tk (i:=12) (d:=28) (v:=(.bool false)) rfl rfl (by kernel_rfl) (by kernel_rfl) (by kernel_rfl) (fun _ _ _ h=>h) (.inl ⟨by rfl,by (intro wq hSw; (try dsimp only at hSw); go_simp; (try (first | rfl | omega)))⟩) hHeld ?_
     simp only [Act.put,List.setIfInBounds_toArray,List.set_cons_zero,List.set_cons_succ]
     refine wpAnyH_done (by kernel_rfl) ?_ _
     have HN:Hid (∀j,j < k+1→opI d rows j=false):=HGO.out (by rw [HNX.out]; rfl)
     clear hHeld hb35 hb5 hb36 hb6 hb37 hb7 hs6 c0 c1
     go_wp2
     exact ⟨⟨k+1,hlt,by go_num,HN.out,HB7.out⟩,by simp [intOf]; omega⟩
    ·skip
     refine wpAnyH_tk (i:=11) (d:=27) (v:=(.bool true)) rfl rfl (by kernel_rfl) (by kernel_rfl) (by kernel_rfl) (fun _ _ _ h=>h) (.inl ⟨by rfl,by (intro wq hSw; (try dsimp only at hSw); go_simp; (try (first | rfl | omega)))⟩) hHeld ?_
     simp only [Act.put,List.setIfInBounds_toArray,List.set_cons_zero,List.set_cons_succ]
     refine wpAnyH_tk (i:=12) (d:=28) (v:=(.bool true)) rfl rfl (by kernel_rfl) (by kernel_rfl) (by kernel_rfl) (fun _ _ _ h=>h) (.inl ⟨by rfl,by (intro wq hSw; (try dsimp only at hSw); go_simp; (try (first | rfl | omega)))⟩) hHeld ?_
     simp only [Act.put,List.setIfInBounds_toArray,List.set_cons_zero,List.set_cons_succ]
     refine wpAnyH_done (by kernel_rfl) ?_ _
     have HT:Hid (opB d rows=true):=HHIT.out (by rw [HNX.out]; rfl)
     clear hHeld hb35 hb5 hb36 hb6 hb37 hb7 hs6 c0 c1
     go_wp2
     go_ret
     exact ⟨by rw [HT.out]; rfl,HBW.out _ HB7.out⟩
   ·skip
    refine wpAnyH_tk (i:=4) (d:=20) (v:=(.bool true)) rfl rfl (by kernel_rfl) (by kernel_rfl) (by kernel_rfl) (fun _ _ _ h=>h) (.inl ⟨by rfl,by (intro wq hSw; (try dsimp only at hSw); go_simp; (try (first | rfl | omega)))⟩) hHeld ?_
    simp only [Act.put,List.setIfInBounds_toArray,List.set_cons_zero,List.set_cons_succ]
    refine wpAnyH_tk (i:=5) (d:=21) (v:=(.bool true)) rfl rfl (by kernel_rfl) (by kernel_rfl) (by kernel_rfl) (fun _ _ _ h=>h) (.inl ⟨by rfl,by (intro wq hSw; (try dsimp only at hSw); go_simp; (try (first | rfl | omega)))⟩) hHeld ?_
    simp only [Act.put,List.setIfInBounds_toArray,List.set_cons_zero,List.set_cons_succ]
    refine wpAnyH_tk (i:=6) (d:=22) (v:=undef) rfl rfl (by kernel_rfl) (by kernel_rfl) (by kernel_rfl) (fun _ _ _ h=>h) (.inr ⟨by rfl,rfl⟩) hHeld ?_
    simp only [Act.put,List.setIfInBounds_toArray,List.set_cons_zero,List.set_cons_succ]
    refine wpAnyH_tk (i:=7) (d:=23) (v:=undef) rfl rfl (by kernel_rfl) (by kernel_rfl) (by kernel_rfl) (fun _ _ _ h=>h) (.inr ⟨by rfl,rfl⟩) hHeld ?_
    simp only [Act.put,List.setIfInBounds_toArray,List.set_cons_zero,List.set_cons_succ]
    refine wpAnyH_tk (i:=8) (d:=24) (v:=undef) rfl rfl (by kernel_rfl) (by kernel_rfl) (by kernel_rfl) (fun _ _ _ h=>h) (.inr ⟨by rfl,rfl⟩) hHeld ?_
    simp only [Act.put,List.setIfInBounds_toArray,List.set_cons_zero,List.set_cons_succ]
    refine wpAnyH_tk (i:=9) (d:=25) (v:=undef) rfl rfl (by kernel_rfl) (by kernel_rfl) (by kernel_rfl) (fun _ _ _ h=>h) (.inr ⟨by rfl,rfl⟩) hHeld ?_
    simp only [Act.put,List.setIfInBounds_toArray,List.set_cons_zero,List.set_cons_succ]
    refine wpAnyH_tk (i:=10) (d:=26) (v:=undef) rfl rfl (by kernel_rfl) (by kernel_rfl) (by kernel_rfl) (fun _ _ _ h=>h) (.inr ⟨by rfl,rfl⟩) hHeld ?_
    simp only [Act.put,List.setIfInBounds_toArray,List.set_cons_zero,List.set_cons_succ]
    refine wpAnyH_tk (i:=11) (d:=27) (v:=undef) rfl rfl (by kernel_rfl) (by kernel_rfl) (by kernel_rfl) (fun _ _ _ h=>h) (.inr ⟨by rfl,rfl⟩) hHeld ?_
    simp only [Act.put,List.setIfInBounds_toArray,List.set_cons_zero,List.set_cons_succ]
    refine wpAnyH_tk (i:=12) (d:=28) (v:=(.bool true)) rfl rfl (by kernel_rfl) (by kernel_rfl) (by kernel_rfl) (fun _ _ _ h=>h) (.inl ⟨by rfl,by (intro wq hSw; (try dsimp only at hSw); go_simp; (try (first | rfl | omega)))⟩) hHeld ?_
    simp only [Act.put,List.setIfInBounds_toArray,List.set_cons_zero,List.set_cons_succ]
    refine wpAnyH_done (by kernel_rfl) ?_ _
    have HT:Hid (opB d rows=true):=HHIT.out (by rw [HNX.out]; rfl)
    have HB5:Hid (Below W.heap.size W w5):=HB3.out.trans (hb35.mono HB3.out.size)
    clear hHeld hb35 hb5 c0 c1
    go_wp2
    go_ret
    exact ⟨by rw [HT.out]; rfl,HBW.out _ HB5.out⟩
  ·obtain rfl:k=d:=by omega
   have HOF:Hid (opB k rows=false):=by
    show _=_
    unfold opB
    rw [List.any_eq_false]
    intro j hj
    rw [HNO.out j (List.mem_range.1 hj)]
    decide
   go_wp2
   go_ret
   exact ⟨by rw [HOF.out]; rfl,HBW.out _ HB.out⟩
end Go.Proofs.YtbdacimjebaihaaGreat
