import Derived.Test.YtadpjlpdfimaeaaGreatDoorMgAO
import Derived.Test.YtadpjlpdfimaeaaGreatDoorMgAA
import Derived.Test.YtadpjlpdfimaeaaGreatDoorMgAI
import Derived.Test.YtadpjlpdfimaeaaGreatDoorRun9
namespace Go.Proofs.YtadpjlpdfimaeaaGreatDoor
open Go.RowKit
attribute [local go_sem ↓] Go.wp_at_zero Go.wp_at_succ
def arr2 (a b:Int):Value:=.agg #[.int .i64 a,.int .i64 b]
set_option maxRecDepth 100000 in
theorem turn_any (a b c e:Int) (w:World) (h1 : -4000000000000000000≤c*b∧c*b≤4000000000000000000) (h2 : -4000000000000000000≤e*a∧e*a≤4000000000000000000) :
  Calls Tryz.prog 85 #[arr2 a b,arr2 c e] w fun r w'=>r=.returned (.int .i64 (c*b-e*a))∧Below w.heap.size w w':=by
 unfold arr2
 obtain ⟨h1a,h1b⟩:=h1
 obtain ⟨h2a,h2b⟩:=h2
 go_enter Tryz.func85,Tryz.ntmps85
 go_wp2
 go_ret
 exact ⟨rfl,((Below.refl _ _).alloc (Nat.le_refl _) _).alloc (by rw [size_alloc]; omega) _⟩
end Go.Proofs.YtadpjlpdfimaeaaGreatDoor

namespace Go.Proofs.YtadpjlpdfimaeaaGreatDoor
open Go.RowKit
theorem two_setCell {w:World} {b:Nat} {x y u:Value} {t:TypeId} (h:w.heap[b]?=some (.cells #[x,y] t (0,0))):(w.setCell ⟨b,1,none⟩ u).heap[b]?=some (.cells #[x,u] t (0,0)):=by
 simp [World.setCell,Array.getElem?_modify,h]
end Go.Proofs.YtadpjlpdfimaeaaGreatDoor

namespace Go.Proofs.YtadpjlpdfimaeaaGreatDoor
open Go.RowKit
attribute [local go_sem ↓] Go.wp_at_zero Go.wp_at_succ
structure PS (N R:Nat) (d:Int) (w wr:World) (v:Value) (m:List (List Int)):Prop where
 pol:wr.heap[R]?=some (.cells #[.int .i64 d,v] 25 (0,0))
 rows:Fr N 22 3 wr v m
 bel:Below N w wr
 nR:N≤R
theorem PS.step {N R:Nat} {d:Int} {w wr w1:World} {v:Value} {m:List (List Int)} (h:PS N R d w wr v m) (hb:Below wr.heap.size wr w1):PS N R d w w1 v m:=by
 have h2:=lt_of_block h.pol
 have h3:=h.nR
 exact ⟨(hb.block _ h2).trans h.pol,h.rows.below hb (Nat.le_refl _),h.bel.trans (hb.mono (by omega)),h.nR⟩
theorem PS.push {N R:Nat} {d:Int} {w wr w1:World} {v v' x:Value} {m:List (List Int)} {zs:List Int} {vs:List Value} (h:PS N R d w wr v m)
  (hx:Sl 0 3 wr x (ints zs)) (h1:vs.length=m.length) (h2:wr.ownsRow N 22 1 v m.length vs) (h3:∀i,i < m.length→Sl 0 3 wr (vs.getD i (.slice none 0 0)) (ints (m.getD i [])))
  (ho:w1.ownsRow N 22 1 v' (m.length+1) (vs ++ [x])) (hg:(wr.alloc (.cells #[x] 22)).grownBy w1 v.ownBlock) :
  (w1.heap[R]?=some (.cells #[.int .i64 d,v] 25 (0,0)))∧PS N R d w (w1.setCell ⟨R,1,none⟩ v') v' (m ++ [zs]):=by
 have n2:=lt_of_block h.pol
 have hnR:=h.nR
 have ht:=owns_typed h2 (e1:=25) (by decide)
 have hsz:(wr.alloc (.cells #[x] 22)).heap.size=wr.heap.size+1:=by simp
 have g2:w1.heap[R]?=some (.cells #[.int .i64 d,v] 25 (0,0)):=by
  rw [hg.block R (by omega) (fun e=>(ht R e.symm).2 _ h.pol),Below.heap_alloc _ _ _ n2]; exact h.pol
 have hr:Fr N 22 3 w1 v' (m ++ [zs]):=Fr.push (by decide) h1 (h2.alloc _) (fun i hi=>(h3 i hi).alloc _) (hx.alloc _) ho hg
 refine ⟨g2,⟨two_setCell g2,?_,?_,hnR⟩⟩
 ·obtain ⟨us,u1,u2,u3⟩:=hr
  refine ⟨us,u1,ownsRow_setCell_other u2 (fun e=>?_) _,fun i hi=>(u3 i hi).setCell _ ⟨Nat.zero_le _,fun cur=>by simp only; rw [g2]; simp⟩⟩
  exact (owns_typed u2 (e1:=25) (by decide) _ e).2 _ g2
 ·refine ((h.bel.alloc (by omega) _).grown hg (by omega) (fun k hk=>(ht k hk).1)).setCell hnR _
def spk (n k:Nat):List Int:=(List.range n).map fun j=>if j=k then 1+((k % 2:Nat):Int) else 0
def zerosL (n:Nat):List Int:=(List.range n).map fun _=>0
def polyL (n:Nat) (m:List (List Int)):List (List Int):=m ++ [zerosL n] ++ (List.range n).map (spk n)
set_option maxRecDepth 100000 in
set_option maxHeartbeats 3200000 in
theorem polytopeOf_any (B:Nat) (l:List Int) (v:Value) (n many wd:Nat) (w:World) (hv:Sl B 3 w v (ints l)) (hr:∀z∈l,In64 z) (hl:l.length≤1000000) (hn1:1≤n) (hn:n≤4) (hmy:many≤10) (hwd:wd≤100) :
  Calls Tryz.prog 4 #[v,.int .i64 0,.int .i64 n,.int .i64 many,.int .i64 wd] w fun e w'=>∃x m,e=.returned (.agg #[.int .i64 n,x])∧m.length=many∧Box n wd m∧Mat w'.heap.size 22 3 w' x (polyL n m)∧Below w.heap.size w w':=by
 obtain ⟨i0,hi,hz0,hz1,hz2⟩:=info_parts Tryz.info22
 obtain ⟨ao,cap,hvv,hlc,hcm⟩:=sl_open hv
 subst hvv
 have HV:Hid (Sl B 3 w (.slice ao l.length cap) (ints l)):=hv
 have HR:Hid (∀z∈l,In64 z):=hr
 have HL:Hid (l.length≤1000000):=hl
 clear hv hr hl
 have hmk:=run_make_row' (P:=Tryz.prog) 22 3 (.int .i64 0) 8 Tryz.underlying22 Tryz.info3 rfl .i64 .i64 n (by omega) (by omega)
 go_enter Tryz.func4,Tryz.ntmps4
 go_wp2_with fail
 obtain ⟨w1,hw1⟩:∃w1,w1=w.alloc (.cells #[.int .i64 0,.slice none 0 0] 25):=⟨_,rfl⟩
 rw [←hw1]
 have hs1:w1.heap.size=w.heap.size+1:=by rw [hw1]; simp
 have HS1:Hid (w1.heap.size=w.heap.size+1):=hs1
 have HB1:Hid (Below w.heap.size w w1):=by rw [hw1]; exact (Below.refl _ _).alloc (Nat.le_refl _) _
 have HK1:Hid (w1.heap[w.heap.size]?=some (.cells #[.int .i64 0,.slice none 0 0] 25 (0,0))):=by rw [hw1]; exact alloc_at _ _
 have HV1:Hid (Sl B 3 w1 (.slice ao l.length cap) (ints l)):=HV.out.below HB1.out (Nat.le_refl _)
 clear hw1 hs1
 refine (pointsOf_any B l _ 0 n many wd w1 HV1.out HR.out HL.out (by omega) (by omega) (by omega) (by omega)).mono ?_
 rintro e w2 ⟨x,m,rfl,hml,hbx,hrw,hb2⟩
 have HML:Hid (m.length=many):=hml
 have HBX:Hid (Box n wd m):=hbx
 obtain ⟨xo,xc,hxv,_,_⟩:=mat_open (hrw.rws.mat (Nat.le_refl _))
 subst hxv
 obtain ⟨N,hN⟩:∃N,N=w1.heap.size:=⟨_,rfl⟩
 obtain ⟨R,hRe⟩:∃R,R=w2.heap.size:=⟨_,rfl⟩
 have HNE:Hid (N=w1.heap.size):=hN
 have hps:PS N R n w1 (w2.alloc (.cells #[.int .i64 n,.slice xo m.length xc] 25)) (.slice xo m.length xc) m:=by
  rw [hN,hRe]
  exact ⟨alloc_at _ _,hrw.alloc _,hb2.alloc hb2.size _,hb2.size⟩
 obtain ⟨w3,hw3⟩:∃w3,w3=w2.alloc (.cells #[.int .i64 n,.slice xo m.length xc] 25):=⟨_,rfl⟩
 rw [←hw3] at hps
 have HPS:Hid (PS N R n w1 w3 (.slice xo m.length xc) m):=hps
 rw [hml] at hw3 HPS ⊢
 clear hml hbx hrw hb2 hps hN
 go_wp2
 rw [←hw3,←hRe]
 clear hw3 hRe
 have c1:w3.cell? ⟨R,1,none⟩=some (.slice xo many xc):=by simp [World.cell?,HPS.out.pol]
 obtain ⟨Wm,hWm⟩:∃Wm,Wm=w3.drew.alloc (.cells (madeCells #[.int .i64 0] n) 3):=⟨_,rfl⟩
 have hbm:Below w3.heap.size w3 Wm:=by rw [hWm]; exact (Below.drew (Below.refl _ _)).alloc (Nat.le_refl _) _
 have hsm:Wm.heap.size=w3.heap.size+1:=by rw [hWm]; show (w3.alloc _).heap.size=_; simp
 have HPM:Hid (PS N R n w1 Wm (.slice xo many xc) m):=HPS.out.step hbm
 have HXZ:Hid (Sl 0 3 Wm (.slice (some ⟨w3.heap.size,0,none⟩) n n) (ints (zerosL n))):=by
  have hrow:Wm.rowIs w3.heap.size 3 n (fun _=>.int .i64 0):=by rw [hWm]; exact World.rowIs_made w3.drew (.int .i64 0) n 3
  exact Sl.row hrow (by simp [zerosL]) (by unfold maxLen; omega) (fun i hi=>by rw [ints_get _ _ (by simpa [zerosL] using hi)]; simp [zerosL,hi])
 obtain ⟨vs,g1,g2,g3⟩:=HPM.out.rows
 have hml:=HML.out
 have HG2:Hid (Wm.ownsRow N 22 1 (.slice xo many xc) many vs):=by rw [←hml]; rw [←hml] at g2; exact g2
 have HPU:Hid (∀v' w5,w5.ownsRow N 22 1 v' (many+1) (vs ++ [.slice (some ⟨w3.heap.size,0,none⟩) n n])→(Wm.alloc (.cells #[.slice (some ⟨w3.heap.size,0,none⟩) n n] 22)).grownBy w5 (Value.slice xo many xc).ownBlock→
   w5.cell? ⟨R,1,none⟩=some (.slice xo many xc)∧w5.frozen? ⟨R,1,none⟩=false∧PS N R n w1 (w5.setCell ⟨R,1,none⟩ v') v' (m ++ [zerosL n])):=fun v' w5 ho hg=>by
  have hp:=HPM.out.push HXZ.out g1 g2 g3 (by rw [hml]; exact ho) hg
  exact ⟨by simp [World.cell?,hp.1],by simp [World.frozen?,hp.1],hp.2⟩
 have HNEW:Hid (∀j u,[Value.slice (some ⟨w3.heap.size,0,none⟩) n n][j]?=some u→(Wm.alloc (.cells #[.slice (some ⟨w3.heap.size,0,none⟩) n n] 22)).cell? ((⟨w3.heap.size+1,0,none⟩:Addr).add j)=some u):=by
  rw [←hsm]; exact one_new _ _ _
 have HNS:Hid (N≤(Wm.alloc (.cells #[.slice (some ⟨w3.heap.size,0,none⟩) n n] 22)).heap.size):=by
  show _≤_
  have h1:=HPM.out.bel.size
  have h2:=HNE.out
  simp; omega
 have c2:(w3.alloc (.cells (madeCells #[.int .i64 0] n) 3)).cell? ⟨R,1,none⟩=some (.slice xo many xc):=(((Below.refl w3.heap.size w3).alloc (Nat.le_refl _) _).cell (lt_of_block HPS.out.pol)).trans c1
 have c3:((w3.alloc (.cells (madeCells #[.int .i64 0] n) 3)).alloc (.cells #[.slice (some ⟨w3.heap.size,0,none⟩) n n] 22)).cell? ⟨R,1,none⟩=some (.slice xo many xc):=(((Below.refl _ (w3.alloc (.cells (madeCells #[.int .i64 0] n) 3))).alloc (Nat.le_refl _) _).cell (lt_of_cell c2)).trans c2
 have htm:many+1≤maxLen:=by unfold maxLen; omega
 rw [hWm] at HG2 HPU HNEW HNS
 clear g1 g2 g3 hWm hbm hsm hml
 go_region_law (refine step_append_own (o:={ dst:=some 27,op:=_,type:=_,pos:=_,after:=_,guard:=_ }) (by rfl) _ _ 23 (by rfl) N 22 i0 (.slice none 0 0) 1 24 Tryz.underlying23 hi hz0 hz1 hz2 rfl (by decide) _ _ _ (by rfl) (HG2.out.alloc _) ⟨w3.heap.size+1,0,none⟩ 1 1 [.slice (some ⟨w3.heap.size,0,none⟩) n n] (by rfl) rfl HNEW.out (one_slice _ _ _) htm (by omega) HNS.out ?_; intro v' w5 ho hg; obtain ⟨vo,vc,hv'⟩:=owns_form ho; subst hv'; have FF:Hid _:=HPU.out _ w5 ho hg; have LS1:=FF.out.1; have LS2:=FF.out.2.1; clear ho hg)
 all_goals
  have HP0:Hid (∃x,PS N R n w1 (w5.setCell ⟨R,1,none⟩ (.slice vo (many+1) vc)) x (m ++ [zerosL n] ++ (List.range 0).map (spk n))):=⟨_,by simpa using FF.out.2.2⟩
  clear FF LS1 LS2 c1 c2 c3
  go_wp2
  go_loopw [12] (fun i wr=>∃k:Nat,k≤n∧i=.int .i64 k∧∃x,PS N R n w1 wr x (m ++ [zerosL n] ++ (List.range k).map (spk n))) (fun i _=>n-(intOf i).toNat)
  case atStart=>exact ⟨0,Nat.zero_le _,rfl,HP0.out⟩
  case round=>
   obtain ⟨k,hk,rfl,x,hp⟩:=hrel
   have HP:Hid (PS N R n w1 wr x (m ++ [zerosL n] ++ (List.range k).map (spk n))):=hp
   have HLN:Hid ((m ++ [zerosL n] ++ (List.range k).map (spk n)).length=many+1+k):=by
    show _=_
    simp [HML.out]; omega
   obtain ⟨yo,yc,hyv,_,_⟩:=mat_open (hp.rows.rws.mat (Nat.le_refl _))
   rw [HLN.out] at hyv
   subst hyv
   clear hp
   by_cases hkn:k < n
   ·obtain ⟨Wq,hWq⟩:∃Wq,Wq=wr.alloc (.cells ((madeCells #[.int .i64 0] n).setIfInBounds k (.int .i64 (1+((k % 2:Nat):Int)))) 3):=⟨_,rfl⟩
    have hbq:Below wr.heap.size wr Wq:=by rw [hWq]; exact (Below.refl _ _).alloc (Nat.le_refl _) _
    have hsq:Wq.heap.size=wr.heap.size+1:=by rw [hWq]; simp
    have HPQ:Hid (PS N R n w1 Wq (.slice yo (many+1+k) yc) (m ++ [zerosL n] ++ (List.range k).map (spk n))):=HP.out.step hbq
    have HXK:Hid (Sl 0 3 Wq (.slice (some ⟨wr.heap.size,0,none⟩) n n) (ints (spk n k))):=by
     have hrow:Wq.rowIs wr.heap.size 3 n (fun j=>if j=k then .int .i64 (1+((k % 2:Nat):Int)) else .int .i64 0):=by
      have e:(wr.alloc (.cells (madeCells #[.int .i64 0] n) 3)).setCell ⟨wr.heap.size,k,none⟩ (.int .i64 (1+((k % 2:Nat):Int)))=Wq:=by rw [hWq]; simp [go_sem]
      rw [←e]
      exact (World.rowIs_made wr (.int .i64 0) n 3).set k _
     refine Sl.row hrow (by simp [spk]) (by unfold maxLen; omega) (fun i hi=>?_)
     rw [ints_get _ _ (by simpa [spk] using hi)]
     by_cases e:i=k
     ·subst e; simp [spk,hi]
     ·simp [spk,hi,e]
    have hmc:(madeCells #[.int .i64 0] n)[k]?=some (.int .i64 0):=by
     rw [←Array.getElem?_toList,toList_madeCells_one]; simp [hkn]
    have hkm:(k:Int).tmod 2=((k % 2:Nat):Int):=by rw [Int.tmod_eq_emod_of_nonneg (by omega)]; rfl
    have hkI:(k:Int) < (n:Int):=by omega
    have hkI0:(0:Int)≤(k:Int):=by omega
    have hk2:k % 2 < 2:=Nat.mod_lt _ (by decide)
    generalize hq2:k % 2=q2 at *
    have d1:wr.cell? ⟨R,1,none⟩=some (.slice yo (many+1+k) yc):=by simp [World.cell?,HP.out.pol]
    have d2:Wq.cell? ⟨R,1,none⟩=some (.slice yo (many+1+k) yc):=by simp [World.cell?,HPQ.out.pol]
    obtain ⟨vs2,g1,g2,g3⟩:=HPQ.out.rows
    have hln:=HLN.out
    have G2:Hid (Wq.ownsRow N 22 1 (.slice yo (many+1+k) yc) (many+1+k) vs2):=by rw [←hln]; rw [←hln] at g2; exact g2
    have HSN:Hid (m ++ [zerosL n] ++ (List.range (k+1)).map (spk n)=m ++ [zerosL n] ++ (List.range k).map (spk n) ++ [spk n k]):=by
     show _=_
     rw [List.range_succ,List.map_append]; simp
    have HPU2:Hid (∀v' w6,w6.ownsRow N 22 1 v' (many+1+k+1) (vs2 ++ [.slice (some ⟨wr.heap.size,0,none⟩) n n])→(Wq.alloc (.cells #[.slice (some ⟨wr.heap.size,0,none⟩) n n] 22)).grownBy w6 (Value.slice yo (many+1+k) yc).ownBlock→
      w6.cell? ⟨R,1,none⟩=some (.slice yo (many+1+k) yc)∧w6.frozen? ⟨R,1,none⟩=false∧PS N R n w1 (w6.setCell ⟨R,1,none⟩ v') v' (m ++ [zerosL n] ++ (List.range (k+1)).map (spk n))):=fun v' w6 ho hg=>by
     have hp:=HPQ.out.push HXK.out g1 g2 g3 (by rw [hln]; exact ho) hg
     rw [HSN.out]
     exact ⟨by simp [World.cell?,hp.1],by simp [World.frozen?,hp.1],hp.2⟩
    have HNEW2:Hid (∀j u,[Value.slice (some ⟨wr.heap.size,0,none⟩) n n][j]?=some u→(Wq.alloc (.cells #[.slice (some ⟨wr.heap.size,0,none⟩) n n] 22)).cell? ((⟨wr.heap.size+1,0,none⟩:Addr).add j)=some u):=by
     rw [←hsq]; exact one_new _ _ _
    have HNS2:Hid (N≤(Wq.alloc (.cells #[.slice (some ⟨wr.heap.size,0,none⟩) n n] 22)).heap.size):=by
     show _≤_
     have h1:=HPQ.out.bel.size
     have h2:=HNE.out
     simp; omega
    clear g1 g2 g3 hln hbq hsq HXK
    subst hWq
    go_wp2_with (first | (at_builtin; refine wpList_append_own _ rfl _ _ 23 rfl N 22 i0 (.slice none 0 0) 1 24 Tryz.underlying23 hi hz0 hz1 hz2 rfl (by decide) _ _ _ rfl (G2.out.alloc _) ⟨wr.heap.size+1,0,none⟩ 1 1 [.slice (some ⟨wr.heap.size,0,none⟩) n n] rfl rfl HNEW2.out (one_slice _ _ _) ?d3 ?d4 ?d5 ?_))
    case d3=>unfold maxLen; omega
    case d4=>omega
    case d5=>exact HNS2.out
    intro v' w6 ho hg _
    obtain ⟨vo2,vc2,hv2⟩:=owns_form ho
    subst hv2
    have FF:=HPU2.out _ w6 ho hg
    have LS1:=FF.1
    have LS2:=FF.2.1
    have HNX:Hid (PS N R n w1 (w6.setCell ⟨R,1,none⟩ (.slice vo2 (many+1+k+1) vc2)) (.slice vo2 (many+1+k+1) vc2) (m ++ [zerosL n] ++ (List.range (k+1)).map (spk n))):=FF.2.2
    clear ho hg FF
    go_wp2
    go_roundw
    case rel=>exact ⟨k+1,by omega,by go_num,_,HNX.out⟩
    case measure=>simp [intOf]; omega
   ·have hke:k=n:=by omega
    subst hke
    have hpol:=HP.out.pol
    have c0:wr.cell? ⟨R,0,none⟩=some (.int .i64 k):=by simp [World.cell?,hpol]
    have c1:wr.cell? ⟨R,1,none⟩=some (.slice yo (many+1+k) yc):=by simp [World.cell?,hpol]
    have hres:wr.heap[w.heap.size]?=some (.cells #[.int .i64 0,.slice none 0 0] 25 (0,0)):=(HP.out.bel.block _ (by rw [HNE.out,HS1.out]; omega)).trans HK1.out
    have k0:wr.cell? ⟨w.heap.size,0,none⟩=some (.int .i64 0):=by simp [World.cell?,hres]
    have k1:wr.cell? ⟨w.heap.size,1,none⟩=some (.slice none 0 0):=by simp [World.cell?,hres]
    have f0:wr.frozen? ⟨w.heap.size,0,none⟩=false:=by simp [World.frozen?,hres]
    have f1:wr.frozen? ⟨w.heap.size,1,none⟩=false:=by simp [World.frozen?,hres]
    have HFIN:Hid (∀a b:Value,Mat ((wr.setCell ⟨w.heap.size,0,none⟩ a).setCell ⟨w.heap.size,1,none⟩ b).heap.size 22 3 ((wr.setCell ⟨w.heap.size,0,none⟩ a).setCell ⟨w.heap.size,1,none⟩ b) (.slice yo (many+1+k) yc) (polyL k m)∧Below w.heap.size w ((wr.setCell ⟨w.heap.size,0,none⟩ a).setCell ⟨w.heap.size,1,none⟩ b)):=fun a b=>by
     have e1:((wr.setCell ⟨w.heap.size,0,none⟩ a).setCell ⟨w.heap.size,1,none⟩ b).heap.size=wr.heap.size:=by simp [World.setCell]
     have g0:(wr.setCell ⟨w.heap.size,0,none⟩ a).heap[w.heap.size]?=some (.cells #[a,.slice none 0 0] 25 (0,0)):=by simp [World.setCell,Array.getElem?_modify,hres]
     have kk:∀e,e≠25→∀cur,wr.heap[w.heap.size]?≠some (.cells cur e (0,0)):=by
      intro e he cur; rw [hres]; simp; intro _ h; exact absurd h.symm he
     have kk2:∀e,e≠25→∀cur,(wr.setCell ⟨w.heap.size,0,none⟩ a).heap[w.heap.size]?≠some (.cells cur e (0,0)):=by
      intro e he cur; rw [g0]; simp; intro _ h; exact absurd h.symm he
     obtain ⟨us,u1,u2,u3⟩:=HP.out.rows
     have hN:w.heap.size < N:=by rw [HNE.out,HS1.out]; omega
     refine ⟨⟨us,u1,?_,fun i hi=>?_⟩,?_⟩
     ·exact Sl.any (B:=0) (((Sl.own (B:=0) u2).setCell _ ⟨Nat.zero_le _,kk 22 (by decide)⟩).setCell _ ⟨Nat.zero_le _,kk2 22 (by decide)⟩) (Nat.le_refl _)
     ·exact Sl.any (B:=0) (((u3 i hi).setCell _ ⟨Nat.zero_le _,kk 3 (by decide)⟩).setCell _ ⟨Nat.zero_le _,kk2 3 (by decide)⟩) (Nat.le_refl _)
     ·have hb:Below w.heap.size w wr:=HB1.out.trans (HP.out.bel.mono (by omega))
      exact (hb.setCell (Nat.le_refl _) _).setCell (Nat.le_refl _) _
    go_wp2
    refine bodyPost_ret (v:=.agg #[.int .i64 k,.slice yo (many+1+k) yc]) (by simp [results,Tryz.results4,go_sem, *]) rfl ?_
    exact ⟨_,m,rfl,HML.out,HBX.out,(HFIN.out _ _).1,(HFIN.out _ _).2⟩
end Go.Proofs.YtadpjlpdfimaeaaGreatDoor
