import Derived.Test.YtcoeneldaohpnaaGreatMgAU
namespace Go.Proofs.YtcoeneldaohpnaaGreat
open Go.RowKit
open Lin
attribute [local go_sem ↓] Go.wp_at_zero Go.wp_at_succ
theorem mnF_snoc (m:Int×Int) (l:List (Int×Int)) (k:Nat) (h:k < l.length):mnF m (l.take (k+1))=if trn (l.getD k (0,0)) (mnF m (l.take k)) < 0 then l.getD k (0,0) else mnF m (l.take k):=by
 rw [List.take_succ_eq_append_getElem h]
 unfold mnF
 rw [List.foldl_append]
 have e:l.getD k (0,0)=l[k]:=by simp [h]
 rw [e]
 rfl
set_option maxRecDepth 100000 in
set_option maxHeartbeats 1600000 in
theorem minS2_any (m0:Int×Int) (l:List (Int×Int)) (v:Value) (w:World) (hs:Sns w.heap.size w v (m0 :: l)) (hb:∀s∈m0 :: l,s.1.natAbs≤100000000∧s.2.natAbs≤100000000) (hl:l.length≤1000) :
  Calls Tryz.prog 76 #[v,.func (.func 75) #[] #[]] w fun e w'=>e=.returned (arr2 (mnF m0 l).1 (mnF m0 l).2)∧Below w.heap.size w w':=by
 obtain ⟨po,pc,hv,hcell⟩:=hs
 subst hv
 have hcell':∀i,i < l.length+1→∃b o,po=some ⟨b,o,none⟩∧b < w.heap.size∧w.cell? ⟨b,o+i*2,none⟩=some (.int .i64 ((m0 :: l).getD i (0,0)).1)∧w.cell? ⟨b,o+i*2+1,none⟩=some (.int .i64 ((m0 :: l).getD i (0,0)).2):=fun i hi=>hcell i (by simpa using hi)
 obtain ⟨b,o,rfl,hbB,hc0,hc1⟩:=hcell' 0 (by omega)
 have HC:Hid (∀W',Below w.heap.size w W'→∀i,i < l.length+1→W'.cell? ⟨b,o+i*2,none⟩=some (.int .i64 ((m0 :: l).getD i (0,0)).1)∧W'.cell? ⟨b,o+i*2+1,none⟩=some (.int .i64 ((m0 :: l).getD i (0,0)).2)):=fun W' h i hi=>by
  obtain ⟨b',o',e,_,k0,k1⟩:=hcell' i hi
  simp only [Option.some.injEq,Addr.mk.injEq,and_true] at e
  obtain ⟨rfl,rfl⟩:=e
  exact ⟨(h.cell hbB).trans k0,(h.cell hbB).trans k1⟩
 simp only [List.getD_cons_zero,Nat.zero_mul,Nat.add_zero] at hc0 hc1
 rw [List.length_cons]
 have HBD:Hid (∀s∈m0 :: l,s.1.natAbs≤100000000∧s.2.natAbs≤100000000):=hb
 clear hcell hcell' hb
 have t1:decide (((l.length+1:Nat):Int) < 1)=false:=by simp; omega
 have t2:decide ((l.length:Int)+1 < 1)=false:=by simp; omega
 have hll:(0:Int) < (l.length:Int)+1:=by omega
 obtain ⟨m1,m2⟩:=m0
 go_enter Tryz.func76,Tryz.ntmps76
 go_wp2
 go_loopw [6] (fun i wr=>∃k:Nat,k≤l.length∧i=.int .i64 (k+1)∧MB w.heap.size w (mnF (m1,m2) (l.take k)) wr) (fun i _=>l.length+1-(intOf i).toNat)
 case atStart=>exact ⟨0,Nat.zero_le _,rfl,MB.start w (m1,m2)⟩
 case round=>
  obtain ⟨k,hk,rfl,hmb⟩:=hrel
  have HM:Hid (MB w.heap.size w (mnF (m1,m2) (l.take k)) wr):=hmb
  clear hmb hc0 hc1
  by_cases hlt:k < l.length
  ·obtain ⟨a0,a1⟩:=HC.out wr HM.out.bel (k+1) (by omega)
   have HCK:Hid (∀W',Below wr.heap.size wr W'→W'.cell? ⟨b,o+(k+1)*2,none⟩=some (.int .i64 ((l.getD k (0,0)).1))∧W'.cell? ⟨b,o+(k+1)*2+1,none⟩=some (.int .i64 ((l.getD k (0,0)).2))):=fun W' h=>HC.out W' (HM.out.bel.trans (h.mono HM.out.bel.size)) (k+1) (by omega)
   have HSN:=mnF_snoc (m1,m2) l k hlt
   have hsm:l.getD k (0,0)∈(m1,m2) :: l:=by
    have e:l.getD k (0,0)=l[k]:=by simp [hlt]
    rw [e]; exact List.mem_cons_of_mem _ (List.getElem_mem _)
   have hmm:mnF (m1,m2) (l.take k)∈(m1,m2) :: l:=by
    rcases mnF_mem (l.take k) (m1,m2) with e | e
    ·rw [e]; exact List.mem_cons_self
    ·exact List.mem_cons_of_mem _ (List.mem_of_mem_take e)
   obtain ⟨bs1,bs2⟩:=HBD.out _ hsm
   obtain ⟨bm1,bm2⟩:=HBD.out _ hmm
   have HF:Hid (mnF (m1,m2) (l.take (k+1))=if trn (l.getD k (0,0)) (mnF (m1,m2) (l.take k)) < 0 then l.getD k (0,0) else mnF (m1,m2) (l.take k)):=HSN
   rw [List.getD_cons_succ] at a0 a1
   clear HSN hsm hmm
   generalize mnF (m1,m2) (l.take k)=mm at *
   generalize l.getD k (0,0)=ss at *
   obtain ⟨mm1,mm2⟩:=mm
   obtain ⟨s1,s2⟩:=ss
   dsimp only at a0 a1 bs1 bs2 bm1 bm2
   have HT:Hid (∀W',Calls Tryz.prog 75 #[.agg #[.int .i64 s1,.int .i64 s2],.agg #[.int .i64 mm1,.int .i64 mm2]] W' fun r w'=>r=.returned (.int .i64 (trn (s1,s2) (mm1,mm2)))∧Below W'.heap.size W' w'):=fun W'=>
    turn_any s1 s2 mm1 mm2 W' (by have:=mul_bd8 bm1 bs2; omega) (by have:=mul_bd8 bm2 bs1; omega)
   have c0:=HM.out.c0
   have c1:=HM.out.c1
   dsimp only at c0 c1
   generalize trn (s1,s2) (mm1,mm2)=T at *
   have kI:(k:Int)+1 < (l.length:Int)+1:=by omega
   have kI0:(0:Int)≤(k:Int)+1:=by omega
   go_upto_region 7 with fail
   go_region_law (refine step_call2v (o:={ dst:=some 26,op:=_,type:=_,pos:=_,after:=_,guard:=_ }) (by rfl) 75 _ _ _ 77 77 (by rfl) _ _ (by rfl) (by rfl) (by rfl) ⟨_,Tryz.func75,by rfl,by rfl⟩ ?_; refine (HT.out _).mono ?_; rintro e w2 ⟨rfl,hb2⟩; refine ⟨_,rfl,?_⟩; have HB2:Hid (Below wr.heap.size wr w2):=(Below.refl _ _).drew.trans hb2; clear hb2)
   all_goals
    have HM2:Hid (MB w.heap.size w (mm1,mm2) w2):=HM.out.keep HB2.out
    obtain ⟨e0,e1⟩:=HCK.out w2 HB2.out
    have d0:=HM2.out.c0
    have d1:=HM2.out.c1
    have g0:=HM2.out.f0
    have g1:=HM2.out.f1
    dsimp only at d0 d1 e0 e1
    clear a0 a1 c0 c1
    by_cases hT:T < 0
    ·have HF2:Hid (mnF (m1,m2) (l.take (k+1))=(s1,s2)):=by
      show _=_
      rw [HF.out,if_pos hT]
     clear HF
     go_wp2
     go_roundw
     case rel=>
      refine ⟨k+1,by omega,by go_num,?_⟩
      rw [HF2.out]
      exact HM2.out.put (s1,s2)
     case measure=>simp [intOf]; omega
    ·have HF2:Hid (mnF (m1,m2) (l.take (k+1))=(mm1,mm2)):=by
      show _=_
      rw [HF.out,if_neg hT]
     clear HF
     go_wp2
     go_roundw
     case rel=>
      refine ⟨k+1,by omega,by go_num,?_⟩
      rw [HF2.out]
      exact HM2.out
     case measure=>simp [intOf]; omega
  ·have hke:k=l.length:=by omega
   subst hke
   rw [List.take_length] at HM
   have d0:=HM.out.c0
   have d1:=HM.out.c1
   have z0:=HM.out.z0
   have z1:=HM.out.z1
   have y0:=HM.out.y0
   have y1:=HM.out.y1
   have HB:Hid (Below w.heap.size w wr):=HM.out.bel
   clear HM
   obtain ⟨mm,hmm⟩:∃mm,mm=mnF (m1,m2) l:=⟨_,rfl⟩
   rw [←hmm] at d0 d1
   have HMM:Hid (mm=mnF (m1,m2) l):=hmm
   clear hmm
   go_wp2
   refine bodyPost_ret (results_cellS (ad:=⟨w.heap.size,0,none⟩) rfl rfl ?_) rfl ⟨rfl,(HB.out.setCell (Nat.le_refl _) _).setCell (Nat.le_refl _) _⟩
   have hsz:=Tryz.sizeOf77
   have hag:=Tryz.isAgg77
   go_simp
   rw [HMM.out]
   rfl
end Go.Proofs.YtcoeneldaohpnaaGreat

namespace Go.Proofs.YtcoeneldaohpnaaGreat
open Go.RowKit
open Lin
attribute [local go_sem ↓] Go.wp_at_zero Go.wp_at_succ
def PrB (s:Int×Int):Prop:=s.1.natAbs≤100000000∧s.2.natAbs≤100000000
theorem turnP_any (s e:Int×Int) (hs:PrB s) (he:PrB e) (w:World) :
  Calls Tryz.prog 75 #[arr2 s.1 s.2,arr2 e.1 e.2] w fun r w'=>r=.returned (.int .i64 (trn s e))∧Below w.heap.size w w':=
 turn_any s.1 s.2 e.1 e.2 w (by have:=mul_bd8 he.1 hs.2; omega) (by have:=mul_bd8 he.2 hs.1; omega)
set_option maxRecDepth 100000 in
theorem beyondS_any (s e:Int×Int) (q:Nat) (w:World) (hs:PrB s) (he:PrB e) (c0:w.cell? ⟨q,0,none⟩=some (.int .i64 e.1)) (c1:w.cell? ⟨q,1,none⟩=some (.int .i64 e.2)) :
  Calls Tryz.prog 77 #[arr2 s.1 s.2,.pointer (some ⟨q,0,none⟩)] w fun r w'=>r=.returned (.bool (decide (0 < trn s e)))∧Below w.heap.size w w':=by
 have HT:Hid (∀W',Calls Tryz.prog 75 #[.agg #[.int .i64 s.1,.int .i64 s.2],.agg #[.int .i64 e.1,.int .i64 e.2]] W' fun r w'=>r=.returned (.int .i64 (trn s e))∧Below W'.heap.size W' w'):=fun W'=>turnP_any s e hs he W'
 have hbW:Below w.heap.size w (w.alloc (.cells #[.int .i64 s.1,.int .i64 s.2] 77)):=(Below.refl _ _).alloc (Nat.le_refl _) _
 have HBW:Hid (Below w.heap.size w (w.alloc (.cells #[.int .i64 s.1,.int .i64 s.2] 77))):=hbW
 have hq:q < w.heap.size:=lt_of_cell c0
 clear hbW
 unfold arr2
 generalize trn s e=T at *
 obtain ⟨s1,s2⟩:=s
 obtain ⟨e1,e2⟩:=e
 dsimp only at *
 go_enter Tryz.func77,Tryz.ntmps77
 go_wp2_with fail
 refine (HT.out _).mono ?_
 rintro r w2 ⟨rfl,hb2⟩
 have HB2:Hid (Below w.heap.size w w2):=HBW.out.trans (hb2.mono HBW.out.size)
 clear hb2 c0 c1
 go_wp2
 go_ret
 exact ⟨rfl,HB2.out⟩
theorem any_snocS {p:Int×Int→Bool} {m:List (Int×Int)} {k:Nat} (hk:k < m.length) (h:(m.take k).any p=false):(m.take (k+1)).any p=p (m.getD k (0,0)):=by
 rw [List.take_succ_eq_append_getElem hk,List.any_append,h]
 simp [hk]
set_option maxRecDepth 100000 in
set_option maxHeartbeats 800000 in
theorem idxS_any (m:List (Int×Int)) (e:Int×Int) (v:Value) (q:Nat) (w:World) (hv:Sns w.heap.size w v m) (hm:∀s∈m,PrB s) (hml:m.length≤1000) (he:PrB e) (hc0:w.cell? ⟨q,0,none⟩=some (.int .i64 e.1)) (hc1:w.cell? ⟨q,1,none⟩=some (.int .i64 e.2)) :
  Calls Tryz.prog 89 #[v,.func (.func 77) #[] #[.pointer (some ⟨q,0,none⟩)]] w fun r w'=>(∃z,r=.returned (.int .i64 z)∧-1≤z∧z < m.length∧decide (0≤z)=m.any fun s=>decide (0 < trn s e))∧Below w.heap.size w w':=by
 obtain ⟨po,pc,rfl,hcell⟩:=hv
 have HCE:Hid (∀W',Below w.heap.size w W'→∀i,i < m.length→∃b o,po=some ⟨b,o,none⟩∧W'.cell? ⟨b,o+i*2,none⟩=some (.int .i64 (m.getD i (0,0)).1)∧W'.cell? ⟨b,o+i*2+1,none⟩=some (.int .i64 (m.getD i (0,0)).2)):=fun W' h i hi=>by
  obtain ⟨b,o,e1,e2,e3,e4⟩:=hcell i hi
  exact ⟨b,o,e1,(h.cell e2).trans e3,(h.cell e2).trans e4⟩
 have HC:Hid (∀s∈m,∀W:World,Below w.heap.size w W→Calls Tryz.prog 77 #[.agg #[.int .i64 s.1,.int .i64 s.2],.pointer (some ⟨q,0,none⟩)] W fun r w'=>r=.returned (.bool (decide (0 < trn s e)))∧Below w.heap.size w w'):=fun s hs W hb=>
  (beyondS_any s e q W (hm s hs) he ((hb.cell (lt_of_cell hc0)).trans hc0) ((hb.cell (lt_of_cell hc1)).trans hc1)).mono fun r w' ⟨h1,h2⟩=>⟨h1,hb.trans (h2.mono hb.size)⟩
 clear hcell hc0 hc1 hm he
 obtain ⟨f,hf⟩:∃f:Int×Int→Bool,f=fun s=>decide (0 < trn s e):=⟨_,rfl⟩
 have HC':Hid (∀s∈m,∀W:World,Below w.heap.size w W→Calls Tryz.prog 77 #[.agg #[.int .i64 s.1,.int .i64 s.2],.pointer (some ⟨q,0,none⟩)] W fun r w'=>r=.returned (.bool (f s))∧Below w.heap.size w w'):=by
  rw [hf]; exact HC.out
 rw [←hf]
 clear hf HC
 go_enter Tryz.func89,Tryz.ntmps89
 go_wp2
 go_loopw [8] (fun i wr=>∃k:Nat,k≤m.length∧i=.int .i64 k∧(m.take k).any f=false∧Below w.heap.size w wr) (fun i _=>m.length-(intOf i).toNat)
 case atStart=>exact ⟨0,Nat.zero_le _,rfl,by simp,Below.refl _ _⟩
 case round=>
  obtain ⟨k,hk,rfl,hno,hb⟩:=hrel
  have HN:Hid ((m.take k).any f=false):=hno
  have HB:Hid (Below w.heap.size w wr):=hb
  clear hno hb
  by_cases hlt:k < m.length
  ·obtain ⟨b1,o1,hs,hcc0,hcc1⟩:=HCE.out wr HB.out k hlt
   subst hs
   have HS1:Hid ((m.take (k+1)).any f=f (m.getD k (0,0))):=any_snocS (p:=f) hlt HN.out
   have HME:Hid (m.getD k (0,0)∈m):=by
    show _∈_
    simp [hlt]
   have HCA:Hid (Calls Tryz.prog 77 #[.agg #[.int .i64 (m.getD k (0,0)).1,.int .i64 (m.getD k (0,0)).2],.pointer (some ⟨q,0,none⟩)] wr fun r w'=>r=.returned (.bool (f (m.getD k (0,0))))∧Below w.heap.size w w'):=HC'.out _ HME.out wr HB.out
   generalize m.getD k (0,0)=x at *
   obtain ⟨fb,hfb⟩:∃fb,fb=f x:=⟨_,rfl⟩
   have HFB:Hid (fb=f x):=hfb
   rw [←hfb] at HCA
   clear hfb
   have kI:(k:Int) < (m.length:Int):=by omega
   have kI0:(0:Int)≤(k:Int):=by omega
   go_wp2_with fail
   refine HCA.out.mono ?_
   rintro e w2 ⟨rfl,hb2⟩
   have HB2:Hid (Below w.heap.size w w2):=hb2
   clear hb2 HCA hcc0 hcc1
   cases hf:fb
   ·have HF:Hid (f x=false):=by rw [←hf]; exact HFB.out.symm
    clear hf
    go_wp2
    go_roundw
    case rel=>exact ⟨k+1,by omega,by go_num,by rw [HS1.out]; exact HF.out,HB2.out⟩
    case measure=>simp [intOf]; omega
   ·have HF:Hid (f x=true):=by rw [←hf]; exact HFB.out.symm
    clear hf
    go_wp2
    go_ret
    refine ⟨⟨_,rfl,by omega,by omega,?_⟩,HB2.out⟩
    rw [decide_eq_true (by omega)]
    exact (List.any_eq_true.2 ⟨x,HME.out,HF.out⟩).symm
  ·have HTK:Hid (m.take k=m):=List.take_of_length_le (by omega)
   go_wp2
   go_ret
   exact ⟨⟨-1,rfl,by omega,by omega,by rw [←HTK.out,HN.out]; rfl⟩,HB.out⟩
set_option maxRecDepth 100000 in
theorem hasS_any (m:List (Int×Int)) (e:Int×Int) (v:Value) (q:Nat) (w:World) (hv:Sns w.heap.size w v m) (hm:∀s∈m,PrB s) (hml:m.length≤1000) (he:PrB e) (hc0:w.cell? ⟨q,0,none⟩=some (.int .i64 e.1)) (hc1:w.cell? ⟨q,1,none⟩=some (.int .i64 e.2)) :
  Calls Tryz.prog 78 #[v,.func (.func 77) #[] #[.pointer (some ⟨q,0,none⟩)]] w fun r w'=>r=.returned (.bool (m.any fun s=>decide (0 < trn s e)))∧Below w.heap.size w w':=by
 have HI:Hid (Calls Tryz.prog 89 #[v,.func (.func 77) #[] #[.pointer (some ⟨q,0,none⟩)]] w fun r w'=>(∃z,r=.returned (.int .i64 z)∧-1≤z∧z < m.length∧decide (0≤z)=m.any fun s=>decide (0 < trn s e))∧Below w.heap.size w w'):=idxS_any m e v q w hv hm hml he hc0 hc1
 obtain ⟨po,pc,rfl,-⟩:=hv
 clear hm he hc0 hc1
 generalize (m.any fun s=>decide (0 < trn s e))=R at *
 go_enter Tryz.func78,Tryz.ntmps78
 go_wp2_with fail
 refine HI.out.mono ?_
 rintro e w' ⟨⟨z,rfl,hz1,hz2,hz3⟩,hb⟩
 have HZ:Hid (decide (0≤z)=R):=hz3
 have HB:Hid (Below w.heap.size w w'):=hb
 clear hz3 hb
 go_wp2
 go_ret
 exact ⟨by rw [←HZ.out]; rfl,HB.out⟩
end Go.Proofs.YtcoeneldaohpnaaGreat
