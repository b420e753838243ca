import Derived.Test.YtcoeneldaohpnaaGreatMgAV
import Derived.Test.YtcoeneldaohpnaaGreatRefs7
import Derived.Test.YtcoeneldaohpnaaGreatWr3
import Derived.Deep.Onto
namespace Go.Proofs.YtcoeneldaohpnaaGreat
open Go.RowKit
open Lin
attribute [local go_sem ↓] Go.wp_at_zero Go.wp_at_succ
structure AtOk (d:Nat) (u v x:List Int) (e:Int×Int):Prop where
 ul:u.length=d
 vl:v.length=d
 xl:x.length=d
 d1:1≤d
 d5:d≤5
 ub:∀z∈u,z.natAbs≤10000
 vb:∀z∈v,z.natAbs≤10000
 xb:∀z∈x,z.natAbs≤100
 eb:e.1.natAbs≤10000000∧e.2.natAbs≤10000000
theorem V_bd {u:List Int} {b:Nat} (h:∀z∈u,z.natAbs≤b) (i:Nat):(V u i).natAbs≤b:=by
 unfold V
 by_cases hi:i < u.length
 ·exact h _ (by simp [hi])
 ·simp [hi]
theorem rwE_bd {d:Nat} {u v x:List Int} {e:Int×Int} (h:AtOk d u v x e) (i:Nat):(rwE u v e i).natAbs≤200000000000:=by
 have h1:=V_bd h.ub i
 have h2:=V_bd h.vb i
 have h3:(e.1*V v i).natAbs≤10000000*10000:=by rw [Int.natAbs_mul]; exact Nat.mul_le_mul h.eb.1 h2
 have h4:(e.2*V u i).natAbs≤10000000*10000:=by rw [Int.natAbs_mul]; exact Nat.mul_le_mul h.eb.2 h1
 unfold rwE trn
 dsimp only
 omega
theorem rwA_facts {d:Nat} {u v x:List Int} {e:Int×Int} (h:AtOk d u v x e):(rwA d u v e).length=d∧(∀z∈rwA d u v e,z.natAbs≤200000000000)∧Sm (rwA d u v e) x:=by
 have h1:(rwA d u v e).length=d:=by unfold rwA; rw [low_len]; simp
 have h2:∀z∈rwA d u v e,z.natAbs≤200000000000:=by
  unfold rwA
  refine low_bd fun z hz=>?_
  obtain ⟨i,_,rfl⟩:=List.mem_map.1 hz
  exact rwE_bd h i
 exact ⟨h1,h2,by rw [h1,h.xl]; exact Nat.le_refl _,by have:=h.d5; omega,fun z hz=>by have:=h2 z hz; omega,fun z hz=>by have:=h.xb z hz; omega⟩
set_option maxRecDepth 100000 in
set_option maxHeartbeats 1600000 in
theorem rowAt_any (d:Nat) (u v x:List Int) (e:Int×Int) (va vx:Value) (w:World) (hx:Sl w.heap.size 3 w vx (ints x)) (ha:Mat w.heap.size 26 3 w va [u,v]) (hok:AtOk d u v x e) :
  Calls Tryz.prog 79 #[arr2 e.1 e.2,va,vx] w fun r w'=>∃z,r=.returned z∧w'.ownsRow w.heap.size 3 1 z (d+1) (ints (rowE d u v x e))∧Below w.heap.size w w':=by
 obtain ⟨i3,hi3,hz30,hz31,hz32⟩:=info_parts Tryz.info3
 obtain ⟨ab,ao,ac,u1,hva,hal,hc0,hu1⟩:=mat_cell ha (k:=0) (by simp)
 obtain ⟨ab',ao',ac',v1,hva',_,hc1,hv1⟩:=mat_cell ha (k:=1) (by simp)
 subst hva
 simp only [Value.slice.injEq,Option.some.injEq,Addr.mk.injEq] at hva'
 obtain ⟨⟨rfl,rfl,-⟩,-,rfl⟩:=hva'
 rw [Nat.add_zero] at hc0
 have e0:([u,v]:List (List Int)).getD 0 []=u:=rfl
 have e1:([u,v]:List (List Int)).getD 1 []=v:=rfl
 rw [e0] at hu1
 rw [e1] at hv1
 clear e0 e1
 obtain ⟨ub,uf,uc,rfl,_,_⟩:=sl_cell hu1 (k:=0) (by rw [hok.ul]; exact hok.d1)
 obtain ⟨vb,vf,vc,rfl,_,_⟩:=sl_cell hv1 (k:=0) (by rw [hok.vl]; exact hok.d1)
 obtain ⟨xo,xc,rfl,_,_⟩:=sl_open hx
 have hd1:=hok.d1
 have hd5:=hok.d5
 have HOK:Hid (AtOk d u v x e):=hok
 have hul:=hok.ul
 have hvl:=hok.vl
 have hxl:=hok.xl
 have hl2:([u,v]:List (List Int)).length=2:=rfl
 rw [hl2] at hal ⊢
 rw [hxl]
 rw [hul] at hu1 hc0
 rw [hvl] at hv1 hc1
 rw [hxl] at hx
 clear hl2
 have HCC:Hid (∀W',Below w.heap.size w W'→W'.cell? ⟨ab,ao,none⟩=some (.slice (some ⟨ub,uf,none⟩) d uc)∧W'.cell? ⟨ab,ao+1,none⟩=some (.slice (some ⟨vb,vf,none⟩) d vc)):=fun W' h=>⟨(h.cell (lt_of_cell hc0)).trans hc0,(h.cell (lt_of_cell hc1)).trans hc1⟩
 have HUV:Hid (∀W',Below w.heap.size w W'→∀k,k < d→W'.cell? ⟨ub,uf+k,none⟩=some (.int .i64 (V u k))∧W'.cell? ⟨vb,vf+k,none⟩=some (.int .i64 (V v k))):=fun W' h k hk=>by
  obtain ⟨b1,o1,c1,hs1,_,k1⟩:=sl_cell (hu1.below h (Nat.le_refl _)) (k:=k) (by omega)
  obtain ⟨b2,o2,c2,hs2,_,k2⟩:=sl_cell (hv1.below h (Nat.le_refl _)) (k:=k) (by omega)
  simp only [Value.slice.injEq,Option.some.injEq,Addr.mk.injEq] at hs1 hs2
  obtain ⟨⟨rfl,rfl,-⟩,-,rfl⟩:=hs1
  obtain ⟨⟨rfl,rfl,-⟩,-,rfl⟩:=hs2
  exact ⟨k1,k2⟩
 have HX:Hid (∀W',Below w.heap.size w W'→Sl W'.heap.size 3 W' (.slice xo d xc) (ints x)):=fun W' h=>(hx.below h (Nat.le_refl _)).any (Nat.le_refl _)
 have hmk:=run_make_row' (P:=Tryz.prog) 26 3 (.int .i64 0) 8 Tryz.underlying26 Tryz.info3 rfl .i64 .i64 d (by omega) (by omega)
 clear hu1 hv1 hx ha hok hc0 hc1 hul hvl hxl
 unfold arr2
 go_enter Tryz.func79,Tryz.ntmps79
 go_wp2
 go_loopw [14] (fun i wr=>∃k:Nat,k≤d∧i=.int .i64 k∧wr.rowIs (w.heap.size+1) 3 d (fun j=>.int .i64 (if j < k then rwE u v e j else 0))∧(wr.cell? ⟨w.heap.size,0,none⟩=some (.int .i64 e.1)∧wr.cell? ⟨w.heap.size,1,none⟩=some (.int .i64 e.2))∧Below w.heap.size w wr) (fun i _=>d-(intOf i).toNat)
 case atStart=>
  have hb1:=(Below.refl w.heap.size w).alloc (Nat.le_refl _) (.cells #[.int .i64 e.1,.int .i64 e.2] 77)
  refine ⟨0,Nat.zero_le _,rfl,?_,⟨by simp,by simp⟩,hb1.alloc (by rw [size_alloc]; omega) _⟩
  have h:=World.rowIs_made (w.alloc (.cells #[.int .i64 e.1,.int .i64 e.2] 77)) (.int .i64 0) d 3
  rw [size_alloc] at h
  exact h.congr fun i hi=>by simp
 case round=>
  obtain ⟨k,hk,rfl,hrow,⟨he0,he1⟩,hb⟩:=hrel
  have HR:Hid (wr.rowIs (w.heap.size+1) 3 d (fun j=>.int .i64 (if j < k then rwE u v e j else 0))):=hrow
  have HB:Hid (Below w.heap.size w wr):=hb
  have HE:Hid (∀W',Below wr.heap.size wr W'→W'.cell? ⟨w.heap.size,0,none⟩=some (.int .i64 e.1)∧W'.cell? ⟨w.heap.size,1,none⟩=some (.int .i64 e.2)):=fun W' h=>⟨(h.cell (lt_of_cell he0)).trans he0,(h.cell (lt_of_cell he1)).trans he1⟩
  clear hrow hb
  by_cases hlt:k < d
  ·obtain ⟨hc0,hc1⟩:=HCC.out wr HB.out
   obtain ⟨hu0,hv0⟩:=HUV.out wr HB.out k hlt
   have q1:=V_bd HOK.out.ub k
   have q2:=V_bd HOK.out.vb k
   have q3:=HOK.out.eb.1
   have q4:=HOK.out.eb.2
   have HT:Hid (∀W',Calls Tryz.prog 75 #[.agg #[.int .i64 (V u k),.int .i64 (V v k)],.agg #[.int .i64 e.1,.int .i64 e.2]] W' fun r w'=>r=.returned (.int .i64 (rwE u v e k))∧Below W'.heap.size W' w'):=fun W'=>
    turnP_any (V u k,V v k) e ⟨by omega,by omega⟩ ⟨by omega,by omega⟩ W'
   have HST:Hid (∀W':World,W'.rowIs (w.heap.size+1) 3 d (fun j=>.int .i64 (if j < k then rwE u v e j else 0))→(W'.setCell ⟨w.heap.size+1,k,none⟩ (.int .i64 (rwE u v e k))).rowIs (w.heap.size+1) 3 d (fun j=>.int .i64 (if j < k+1 then rwE u v e j else 0))):=fun W' h=>by
    refine (h.set k _).congr fun j hj=>?_
    by_cases f1:j=k
    ·subst f1; simp
    ·by_cases f2:j < k
     ·simp [f1,f2,show j < k+1 by omega]
     ·simp [f1,f2,show ¬j < k+1 by omega]
   generalize rwE u v e k=T at *
   generalize V u k=uk at *
   generalize V v k=vk at *
   have kI:(k:Int) < (d:Int):=by omega
   have kI0:(0:Int)≤(k:Int):=by omega
   clear q1 q2 q3 q4
   go_upto_region 5 with fail
   go_region_law (refine step_call2 (o:={ dst:=some 33,op:=_,type:=_,pos:=_,after:=_,guard:=_ }) (by rfl) 75 _ _ 77 77 (by rfl) _ _ (by rfl) (by rfl) ⟨_,Tryz.func75,by rfl,by rfl⟩ ?_; refine (HT.out _).mono ?_; rintro r w2 ⟨rfl,hb2⟩; refine ⟨_,rfl,?_⟩; have HB2:Hid (Below wr.heap.size wr w2):=(Below.refl _ _).drew.trans hb2; clear hb2; have HR2:Hid (w2.rowIs (w.heap.size+1) 3 d (fun j=>.int .i64 (if j < k then rwE u v e j else 0))):=rowIs_below HR.out HB2.out (Nat.le_refl _); have g1:=HR2.out.cell (i:=k) hlt; have g2:=HR2.out.frozen k)
   all_goals
    clear hc0 hc1 hu0 hv0 he0 he1 g1 g2
    go_wp2
    go_roundw
    case rel=>
     refine ⟨k+1,by omega,by go_num,HST.out _ HR2.out,?_,(HB.out.trans (HB2.out.mono HB.out.size)).setCell (by show w.heap.size≤w.heap.size+1; omega) _⟩
     obtain ⟨p1,p2⟩:=HE.out w2 HB2.out
     exact ⟨(World.cell?_setCell_other _ _ _ _ (by simp)).trans p1,(World.cell?_setCell_other _ _ _ _ (by simp)).trans p2⟩
    case measure=>simp [intOf]; omega
  ·have hke:k=d:=by omega
   subst hke
   clear he0 he1
   obtain ⟨fl,fb,fs⟩:=rwA_facts HOK.out
   have HPR:Hid (Calls Tryz.prog 88 #[.slice (some ⟨w.heap.size+1,0,none⟩) k k] wr fun e' w'=>∃z,e'=.returned z∧w'.ownsRow wr.heap.size 3 1 z k (ints (rwA k u v e))∧Below wr.heap.size wr w'):=by
    have hsl:Sl wr.heap.size 3 wr (.slice (some ⟨w.heap.size+1,0,none⟩) k k) (ints ((List.range k).map (rwE u v e))):=by
     refine Sl.row HR.out (by simp) (by unfold maxLen; omega) fun i hi=>?_
     rw [ints_get _ _ (by simpa using hi),if_pos hi]
     simp [hi]
    have h:=primitive_own wr.heap.size _ _ wr hsl (by simp; omega) (fun z hz=>by
     obtain ⟨i,_,rfl⟩:=List.mem_map.1 hz
     have:=rwE_bd HOK.out i
     omega)
    refine h.mono ?_
    rintro e' w' ⟨z,h1,h2,h3⟩
    refine ⟨z,h1,?_,h3⟩
    unfold rwA
    simpa using h2
   clear HE HCC HUV HR
   go_upto_region 7 with fail
   go_wp2_with fail
   refine HPR.out.mono ?_
   rintro e' w3 ⟨z,rfl,ho,hb3⟩
   obtain ⟨zo,zc,rfl⟩:=owns_form ho
   have HO:Hid (w3.ownsRow wr.heap.size 3 1 (.slice zo k zc) k (ints (rwA k u v e))):=ho
   have HB3:Hid (Below wr.heap.size wr w3):=hb3
   have HBW:Hid (Below w.heap.size w w3):=HB.out.trans (hb3.mono HB.out.size)
   have hs3:w.heap.size≤w3.heap.size:=HBW.out.size
   have HPD:Hid (∀W',Below w3.heap.size w3 W'→Calls Tryz.prog 86 #[.slice zo k zc,.slice xo k xc] W' fun e' w'=>e'=.returned (.int .i64 (dotL (rwA k u v e) x))∧∃n,w'=W'.drewN n):=fun W' hB=>by
    have hsl:Sl W'.heap.size 3 W' (.slice zo k zc) (ints (rwA k u v e)):=Sl.own (owns_below ho hB (Nat.le_refl _))
    exact product_any W'.heap.size _ x _ _ W' hsl (HX.out W' (HBW.out.trans (hB.mono hs3))) fs
   clear ho hb3 HPR
   go_wp2_with fail
   refine (HPD.out w3 (Below.refl _ _)).mono ?_
   rintro e' w4 ⟨rfl,n4,rfl⟩
   have HRE:Hid (rowE k u v x e=rwA k u v e ++ [dotL (rwA k u v e) x]):=rfl
   have HO4:Hid ((w3.drewN n4).ownsRow w.heap.size 3 1 (.slice zo k zc) k (ints (rwA k u v e))):=(owns_below HO.out (below_drewN (Below.refl _ _) n4) (Nat.le_refl _)).mono HB.out.size
   have HB4:Hid (Below w.heap.size w (w3.drewN n4)):=below_drewN HBW.out n4
   generalize dotL (rwA k u v e) x=bv at *
   obtain ⟨W4,hW4⟩:∃W4,W4=w3.drewN n4:=⟨_,rfl⟩
   rw [←hW4] at HO4 HB4 ⊢
   have hs4:w.heap.size≤W4.heap.size:=HB4.out.size
   clear hW4 HO HB3 HBW HPD hmk HX
   go_wp2_with (first | (at_builtin; refine wpList_append_own _ rfl _ _ 26 rfl w.heap.size 3 i3 (.int .i64 0) 1 8 Tryz.underlying26 hi3 hz30 hz31 hz32 rfl (by decide) _ _ _ rfl (HO4.out.alloc _) ⟨W4.heap.size,0,none⟩ 1 1 [.int .i64 bv] rfl rfl (one_new _ _ _) (one_int _) ?c3 ?c4 ?c5 ?_))
   case c3=>unfold maxLen; omega
   case c4=>omega
   case c5=>first | exact hs4 | omega | (simp; omega)
   intro v' w7 ho7 hg7 _
   have R1:Hid (w7.ownsRow w.heap.size 3 1 v' (k+1) (ints (rowE k u v x e))):=by
    have e2:ints (rwA k u v e ++ [bv])=ints (rwA k u v e) ++ [.int .i64 bv]:=by simp [ints]
    show World.ownsRow _ _ _ _ _ _ _
    rw [HRE.out,e2]
    exact ho7
   have R2:Hid (Below w.heap.size w w7):=(HB4.out.alloc hs4 _).grown hg7 (by simp; omega) (fun x hx=>(HO4.out.lt x hx).1)
   clear ho7 hg7
   go_wp2
   go_ret
   exact ⟨_,rfl,R1.out,R2.out⟩
end Go.Proofs.YtcoeneldaohpnaaGreat
