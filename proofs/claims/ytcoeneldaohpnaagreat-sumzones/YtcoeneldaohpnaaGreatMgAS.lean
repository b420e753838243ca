import Derived.Test.YtcoeneldaohpnaaGreatMgAM
import Derived.Test.YtcoeneldaohpnaaGreatMgAF
import Derived.Test.YtcoeneldaohpnaaGreatMgAN
import Derived.Test.YtcoeneldaohpnaaGreatMgAG
import Derived.Test.YtcoeneldaohpnaaGreatRun9
import Derived.Test.YtcoeneldaohpnaaGreatMgAB
import Derived.Test.YtcoeneldaohpnaaGreatMgAQ
import Derived.Test.YtcoeneldaohpnaaGreatMgAO
namespace Go.Proofs.YtcoeneldaohpnaaGreat
open Go.RowKit
attribute [local go_sem ↓] Go.wp_at_zero Go.wp_at_succ
def arr2 (a b:Int):Value:=.agg #[.int .i64 a,.int .i64 b]
set_option maxRecDepth 100000 in
theorem turn_any (a b c e:Int) (w:World) (h1 : -4000000000000000000≤c*b∧c*b≤4000000000000000000) (h2 : -4000000000000000000≤e*a∧e*a≤4000000000000000000) :
  Calls Tryz.prog 75 #[arr2 a b,arr2 c e] w fun r w'=>r=.returned (.int .i64 (c*b-e*a))∧Below w.heap.size w w':=by
 unfold arr2
 obtain ⟨h1a,h1b⟩:=h1
 obtain ⟨h2a,h2b⟩:=h2
 go_enter Tryz.func75,Tryz.ntmps75
 go_wp2
 go_ret
 exact ⟨rfl,((Below.refl _ _).alloc (Nat.le_refl _) _).alloc (by rw [size_alloc]; omega) _⟩
end Go.Proofs.YtcoeneldaohpnaaGreat

namespace Go.Proofs.YtcoeneldaohpnaaGreat
open Go.RowKit
attribute [local go_sem ↓] Go.wp_at_zero Go.wp_at_succ
def addL (a b:List Int):List Int:=(List.range a.length).map fun i=>a.getD i 0+b.getD i 0
theorem addL_length (a b:List Int):(addL a b).length=a.length:=by simp [addL]
theorem addL_snoc (a b:List Int) (k:Nat) (h:k < a.length):(addL a b).take (k+1)=(addL a b).take k ++ [a.getD k 0+b.getD k 0]:=by
 rw [List.take_succ_eq_append_getElem (by rw [addL_length]; exact h)]
 congr 1
 simp [addL]
end Go.Proofs.YtcoeneldaohpnaaGreat

namespace Go.Proofs.YtcoeneldaohpnaaGreat
open Lin
theorem full_of_span {d:Nat} {P:List (List Int)} (hP:∀y∈P,y.length=d) (h:∀c:Nat→Int,(∀y∈P,∀z∈P,dot d c (V y)=dot d c (V z))→∀i,i < d→c i=0):(pickL d (diffL P)).length=d:=by
 have hgr:=pick_greedy d (diffL P)
 have:=(greedy_full hgr).2 (fun v hv=>h v fun y hy z hz=>by
  have key:∀y∈P,dot d v (V y)=dot d v (V (P.getD 0 [])):=fun y hy=>by
   cases hPe:P with
   | nil=>rw [hPe] at hy; simp at hy
   | cons p0 P'=>
    rw [hPe] at hy
    rcases List.mem_cons.1 hy with rfl | hy
    ·rfl
    ·have h1:=hv (V (subL y p0)) (mem_fm.2 ⟨_,by rw [hPe]; simp only [diffL,List.drop_succ_cons,List.drop_zero]; exact List.mem_map.2 ⟨y,hy,rfl⟩,rfl⟩)
     rw [dot_comm,dot_subL v (hP y (by rw [hPe]; simp [hy]))] at h1
     show dot d v (V y)=dot d v (V p0)
     omega
  rw [key y hy,key z hz])
 rw [fm_length] at this
 exact this
end Go.Proofs.YtcoeneldaohpnaaGreat

namespace Go.Proofs.YtcoeneldaohpnaaGreat
open Lin
theorem argmax {α:Type} (g:α→Int):∀P:List α,P≠[]→∃x∈P,∀y∈P,g y≤g x
 | [],h=>absurd rfl h
 | [a],_=>⟨a,by simp,fun y hy=>by simp at hy; subst hy; exact Int.le_refl _⟩
 | a :: b :: P,_=>by
  obtain ⟨x,hx,h⟩:=argmax g (b :: P) (by simp)
  rcases Int.lt_or_le (g x) (g a) with hlt | hle
  ·exact ⟨a,by simp,fun y hy=>by
    rcases List.mem_cons.1 hy with rfl | hy
    ·exact Int.le_refl _
    ·have:=h y hy; omega⟩
  ·exact ⟨x,List.mem_cons_of_mem _ hx,fun y hy=>by
    rcases List.mem_cons.1 hy with rfl | hy
    ·exact hle
    ·exact h y hy⟩
theorem row_some {d:Nat} {C:List (List Int)} (hg:Good d C):∃r,r∈rowsC C [] d C:=by
 refine Classical.byContradiction fun hn=>?_
 have hne:C≠[]:=by
  intro h
  have:=hg.n2
  rw [h] at this
  simp at this
 have hd1:=hg.d1
 obtain ⟨x,hx,hmx⟩:=argmax (fun y:List Int=>dot d (unit 0) (V y)) C hne
 have h:=rows_tell hg (P':=C) (fun _=>Iff.rfl) (q:=[1000]) (fun r hr=>absurd ⟨r,hr⟩ hn) hx (c:=unit 0) hmx
 rw [dot_unit (by omega),dot_unit (by omega)] at h
 have h2:=(hg.box x hx).2 (V x 0) (getD_mem (by rw [(hg.box x hx).1]; omega))
 simp [V] at h h2
 omega
theorem mem_head_drop {t:List (List Int)} {y:List Int} (hy:y∈t):y=t.getD 0 []∨y∈t.drop 1:=by
 cases t with
 | nil=>simp at hy
 | cons a t=>
  rcases List.mem_cons.1 hy with h | h
  ·exact Or.inl h
  ·exact Or.inr h
end Go.Proofs.YtcoeneldaohpnaaGreat

namespace Go.Proofs.YtcoeneldaohpnaaGreat
open Lin
theorem row_one {d:Nat} {P:List (List Int)} (hbox:∀y∈P,y.length=d) (hd1:1≤d) {r:List Int} (hr:r∈rowsC P [] d P) :
  ∃t:List (List Int),(∀y∈t,y∈P∧r.getD d 0=dot d (V r) (V y))∧t.getD 0 []∈t∧(∃i,i < d∧V r i≠0)∧∀u:Nat→Int,(∀y∈t,dot d u (V y)=dot d u (V (t.getD 0 [])))→Par d u (V r):=by
 obtain ⟨t,hts,htl,hrt⟩:=mem_rowsC.1 hr
 obtain ⟨σ,hσ,hnb,hre⟩:=rowT_form htl hrt
 have hal:=norm_len hnb
 obtain ⟨⟨p,hp,hne⟩,hn1,hn2⟩:=norm_spec (of_decide_eq_true hnb)
 have hσ0:σ≠0:=by rcases hσ with rfl | rfl <;> decide
 have ht0:t.getD 0 []∈t:=by simp [show 0 < t.length by omega]
 have hVr:∀i,i < d→V r i=σ*V (normL d (diffL t)) i:=fun i hi=>by
  rw [hre]
  have h:=V_map (normL d (diffL t) ++ [dotL (normL d (diffL t)) (t.getD 0 [])]) σ i
  rw [h,(row_app hal).2.2.2 i hi]
 have hlast:r.getD d 0=σ*dotL (normL d (diffL t)) (t.getD 0 []):=by
  rw [hre]
  have h:=V_map (normL d (diffL t) ++ [dotL (normL d (diffL t)) (t.getD 0 [])]) σ d
  simp only [V] at h
  rw [h,(row_app hal).2.2.1]
 have hdr:∀x:Nat→Int,dot d (V r) x=σ*dot d (V (normL d (diffL t))) x:=fun x=>by
  unfold dot
  rw [←sumN_mul]
  exact sumN_congr fun i hi=>by rw [hVr i hi,Int.mul_assoc]
 have hks:∀y∈t,dot d (V (normL d (diffL t))) (V y)=dot d (V (normL d (diffL t))) (V (t.getD 0 [])):=fun y hy=>by
  rcases mem_head_drop hy with e | hy'
  ·rw [←e]
  ·have h1:=hn1 (subL y (t.getD 0 [])) (List.mem_map.2 ⟨y,hy',rfl⟩)
   rw [dot_comm,dot_subL _ (hbox y (hts.subset hy))] at h1
   omega
 refine ⟨t,fun y hy=>⟨hts.subset hy,?_⟩,ht0,⟨p,hp,by rw [hVr p hp]; exact Int.mul_ne_zero hσ0 hne⟩,fun u hu=>?_⟩
 ·rw [hlast,hdr,dotL_eq hal,hks y hy]
 ·have h1:Par d u (V (normL d (diffL t))):=hn2 u fun q hq=>by
   obtain ⟨y,hy,rfl⟩:=List.mem_map.1 hq
   have hyt:=List.mem_of_mem_drop hy
   rw [dot_comm,dot_subL _ (hbox y (hts.subset hyt)),hu y hyt]
   omega
  intro i j hi hj
  have:=h1 i j hi hj
  rw [hVr i hi,hVr j hj]
  grind
end Go.Proofs.YtcoeneldaohpnaaGreat

namespace Go.Proofs.YtcoeneldaohpnaaGreat
open Lin
def trn (s t:Int×Int):Int:=t.1*s.2-t.2*s.1
def dt2 (s t:Int×Int):Int:=t.1*s.1+t.2*s.2
def mxF (m:Int×Int) (l:List (Int×Int)):Int×Int:=l.foldl (fun m s=>if 0 < trn s m then s else m) m
def mnF (m:Int×Int) (l:List (Int×Int)):Int×Int:=l.foldl (fun m s=>if trn s m < 0 then s else m) m
theorem trn_self (s:Int×Int):trn s s=0:=by unfold trn; grind
theorem trn_neg (s t:Int×Int):trn t s=- trn s t:=by unfold trn; grind
theorem trn_op (s t:Int×Int):trn s (-t.1,-t.2)=- trn s t:=by unfold trn; grind
theorem trn_parts (s t e:Int×Int):dt2 e e*trn s t=dt2 s e*(- trn t e)-dt2 t e*(- trn s e):=by unfold trn dt2; grind
def RtE (e s:Int×Int):Prop:=trn s e≤0∧(trn s e=0→0 < dt2 s e)
theorem dt2_pos {e:Int×Int} (h:e≠(0,0)):0 < dt2 e e:=by
 unfold dt2
 obtain ⟨a,b⟩:=e
 have h1:a≠0∨b≠0:=by
  rcases Int.decEq a 0 with ha | ha
  ·exact .inl ha
  ·right
   intro hb
   exact h (by rw [ha,hb])
 have sq:∀z:Int,0≤z*z∧(z≠0→0 < z*z):=fun z=>by
  constructor
  ·rcases Int.lt_or_le z 0 with h | h
   ·have:=Int.mul_pos_of_neg_of_neg h h; omega
   ·exact Int.mul_nonneg h h
  ·intro hz
   rcases Int.lt_or_gt_of_ne hz with h | h
   ·exact Int.mul_pos_of_neg_of_neg h h
   ·exact Int.mul_pos h h
 show 0 < a*a+b*b
 have ha:=sq a
 have hb:=sq b
 rcases h1 with h1 | h1
 ·have:=ha.2 h1; omega
 ·have:=hb.2 h1; omega
theorem rt_trans {e a b c:Int×Int} (he:0 < dt2 e e) (ha:RtE e a) (hb:RtE e b) (hc:RtE e c) (h1:trn a b≤0) (h2:0 < trn c b):trn a c≤0:=by
 have p1:=trn_parts a b e
 have p2:=trn_parts c b e
 have p3:=trn_parts a c e
 obtain ⟨a1,a2⟩:=ha
 obtain ⟨b1,b2⟩:=hb
 obtain ⟨c1,c2⟩:=hc
 have q1:dt2 e e*trn a b≤0:=Int.mul_nonpos_of_nonneg_of_nonpos (by omega) h1
 have q2:0 < dt2 e e*trn c b:=Int.mul_pos he h2
 obtain ⟨pa,hpa⟩:∃pa,pa=- trn a e:=⟨_,rfl⟩
 obtain ⟨pb,hpb⟩:∃pb,pb=- trn b e:=⟨_,rfl⟩
 obtain ⟨pc,hpc⟩:∃pc,pc=- trn c e:=⟨_,rfl⟩
 rw [←hpa,←hpb] at p1
 rw [←hpc,←hpb] at p2
 rw [←hpa,←hpc] at p3
 generalize dt2 a e=qa at *
 generalize dt2 b e=qb at *
 generalize dt2 c e=qc at *
 rw [p1] at q1
 rw [p2] at q2
 have hpa0:0≤pa:=by omega
 have hpb0:0≤pb:=by omega
 have hpc0:0≤pc:=by omega
 have hpbp:0 < pb:=by
  rcases Int.lt_or_le 0 pb with h | h
  ·exact h
  ·exfalso
   have hb0:pb=0:=by omega
   have:=b2 (by omega)
   rw [hb0,Int.mul_zero] at q2
   have:=Int.mul_nonneg (Int.le_of_lt this) hpc0
   omega
 have k1:qa*pb*pc≤qb*pa*pc:=Int.mul_le_mul_of_nonneg_right (by omega) hpc0
 have k2:qb*pc*pa≤qc*pb*pa:=Int.mul_le_mul_of_nonneg_right (by omega) hpa0
 have k3:pb*(qa*pc)≤pb*(qc*pa):=by
  have e1:pb*(qa*pc)=qa*pb*pc:=by grind
  have e2:pb*(qc*pa)=qc*pb*pa:=by grind
  have e3:qb*pa*pc=qb*pc*pa:=by grind
  omega
 have k4:=Int.le_of_mul_le_mul_left k3 hpbp
 have k5:dt2 e e*trn a c≤0:=by rw [p3]; omega
 rcases Int.lt_or_le 0 (trn a c) with h | h
 ·have:=Int.mul_pos he h; omega
 ·exact h
theorem rt_zero {e a b c:Int×Int} (he:0 < dt2 e e) (ha:RtE e a) (hb:RtE e b) (hc:RtE e c) (h1:trn a b=0) (h2:trn c b=0):trn a c=0:=by
 have p1:=trn_parts a b e
 have p2:=trn_parts c b e
 have p3:=trn_parts a c e
 obtain ⟨a1,a2⟩:=ha
 obtain ⟨b1,b2⟩:=hb
 obtain ⟨c1,c2⟩:=hc
 rw [h1,Int.mul_zero] at p1
 rw [h2,Int.mul_zero] at p2
 obtain ⟨pa,hpa⟩:∃pa,pa=- trn a e:=⟨_,rfl⟩
 obtain ⟨pb,hpb⟩:∃pb,pb=- trn b e:=⟨_,rfl⟩
 obtain ⟨pc,hpc⟩:∃pc,pc=- trn c e:=⟨_,rfl⟩
 rw [←hpa,←hpb] at p1
 rw [←hpc,←hpb] at p2
 rw [←hpa,←hpc] at p3
 generalize dt2 a e=qa at *
 generalize dt2 b e=qb at *
 generalize dt2 c e=qc at *
 have k:qa*pc-qc*pa=0:=by
  rcases Int.lt_or_le 0 pb with h | h
  ·have:pb*(qa*pc-qc*pa)=0:=by
    have e1:pb*(qa*pc-qc*pa)=(qa*pb)*pc-(qc*pb)*pa:=by grind
    have e2:qa*pb=qb*pa:=by omega
    have e3:qc*pb=qb*pc:=by omega
    rw [e1,e2,e3]; grind
   rcases Int.mul_eq_zero.1 this with h0 | h0
   ·omega
   ·exact h0
  ·have hb0:pb=0:=by omega
   have hq:=b2 (by omega)
   rw [hb0,Int.mul_zero] at p1 p2
   have e1:qb*pa=0:=by omega
   have e2:qb*pc=0:=by omega
   have f1:pa=0:=by rcases Int.mul_eq_zero.1 e1 with h | h <;> omega
   have f2:pc=0:=by rcases Int.mul_eq_zero.1 e2 with h | h <;> omega
   rw [f1,f2]; simp
 rw [k] at p3
 rcases Int.mul_eq_zero.1 p3 with h | h <;> omega
theorem mxF_mem:∀(l:List (Int×Int)) (m:Int×Int),mxF m l=m∨mxF m l∈l
 | [],m=>.inl rfl
 | s :: l,m=>by
  show mxF (if 0 < trn s m then s else m) l=m∨mxF (if 0 < trn s m then s else m) l∈s :: l
  rcases mxF_mem l (if 0 < trn s m then s else m) with h | h
  ·rw [h]
   split
   ·exact .inr (by simp)
   ·exact .inl rfl
  ·exact .inr (by simp [h])
theorem mxF_max {e:Int×Int} (he:0 < dt2 e e):∀(l:List (Int×Int)) (m:Int×Int),RtE e m→(∀s∈l,RtE e s)→trn m (mxF m l)≤0∧∀s∈l,trn s (mxF m l)≤0
 | [],m,_,_=>⟨by show trn m m≤0; rw [trn_self]; omega,fun s hs=>by cases hs⟩
 | s :: l,m,hm,hl=>by
  have hs:=hl s (by simp)
  have hl':∀x∈l,RtE e x:=fun x hx=>hl x (by simp [hx])
  have e1:mxF m (s :: l)=mxF (if 0 < trn s m then s else m) l:=rfl
  rw [e1]
  by_cases h:0 < trn s m
  ·rw [if_pos h]
   obtain ⟨k1,k2⟩:=mxF_max he l s hs hl'
   have hR:RtE e (mxF s l):=by
    rcases mxF_mem l s with h1 | h1
    ·rw [h1]; exact hs
    ·exact hl' _ h1
   refine ⟨?_,fun x hx=>?_⟩
   ·rcases Int.lt_or_le 0 (trn (mxF s l) s) with h3 | h3
    ·exact rt_trans he hm hs hR (by have:=trn_neg s m; omega) h3
    ·have e2:=trn_neg s (mxF s l)
     have h4:trn (mxF s l) s=0:=by omega
     -- both on one ray
     refine Classical.byContradiction fun hn=>?_
     have h5:0 < trn m (mxF s l):=by omega
     have h6:=rt_trans he hs hR hm (by omega) h5
     have:=trn_neg s m
     omega
   ·rcases List.mem_cons.1 hx with rfl | hx
    ·exact k1
    ·exact k2 x hx
  ·rw [if_neg h]
   obtain ⟨k1,k2⟩:=mxF_max he l m hm hl'
   have hR:RtE e (mxF m l):=by
    rcases mxF_mem l m with h1 | h1
    ·rw [h1]; exact hm
    ·exact hl' _ h1
   refine ⟨k1,fun x hx=>?_⟩
   rcases List.mem_cons.1 hx with rfl | hx
   ·rcases Int.lt_or_le 0 (trn (mxF m l) m) with h3 | h3
    ·exact rt_trans he hs hm hR (by omega) h3
    ·have e2:=trn_neg m (mxF m l)
     have h4:trn (mxF m l) m=0:=by omega
     refine Classical.byContradiction fun hn=>?_
     have h5:0 < trn x (mxF m l):=by omega
     have h6:=rt_trans he hm hR hs (by omega) h5
     have h7:=trn_neg x m
     have h8:=rt_zero he hs hm hR (by omega) h4
     omega
   ·exact k2 x hx
def flp (s:Int×Int):Int×Int:=(-s.1,s.2)
theorem trn_flp (s t:Int×Int):trn (flp s) (flp t)=- trn s t:=by unfold trn flp; grind
theorem flp_flp (s:Int×Int):flp (flp s)=s:=by unfold flp; simp
theorem mn_mx:∀(l:List (Int×Int)) (m:Int×Int),flp (mnF m l)=mxF (flp m) (l.map flp)
 | [],m=>rfl
 | s :: l,m=>by
  show flp (mnF (if trn s m < 0 then s else m) l)=mxF (if 0 < trn (flp s) (flp m) then flp s else flp m) (l.map flp)
  rw [mn_mx l]
  congr 1
  rw [trn_flp]
  by_cases h:trn s m < 0
  ·rw [if_pos h,if_pos (by omega)]
  ·rw [if_neg h,if_neg (by omega)]
theorem mnF_mem (l:List (Int×Int)) (m:Int×Int):mnF m l=m∨mnF m l∈l:=by
 have h:=mn_mx l m
 rcases mxF_mem (l.map flp) (flp m) with h1 | h1
 ·left
  rw [h1] at h
  have:=congrArg flp h
  rw [flp_flp,flp_flp] at this
  exact this
 ·right
  rw [←h] at h1
  obtain ⟨s,hs,he⟩:=List.mem_map.1 h1
  have:=congrArg flp he
  rw [flp_flp,flp_flp] at this
  rw [←this]; exact hs
end Go.Proofs.YtcoeneldaohpnaaGreat

namespace Go.Proofs.YtcoeneldaohpnaaGreat
open Lin
theorem gc_pos {l:List Int} {z:Int} (h:z∈l) (hz:z≠0):gc l≠0:=fun e=>by
 have:=gc_dvd h
 rw [e] at this
 exact hz (by simpa using this)
theorem low_mul (l:List Int):(low l).map ((gc l:Int) * ·)=l:=by
 unfold low
 rw [List.map_map]
 have:∀z∈l,(((gc l:Int) * ·)∘(· / (gc l:Int))) z=z:=fun z hz=>by
  show (gc l:Int)*(z / (gc l:Int))=z
  exact Int.mul_ediv_cancel' (gc_dvd hz)
 rw [List.map_congr_left this,List.map_id']
theorem gc_low {l:List Int} (h:gc l≠0):gc (low l)=1:=by
 have e:=gc_scale (gc l:Int) (low l)
 rw [low_mul] at e
 simp only [Int.natAbs_natCast] at e
 have h2:gc l*1=gc l*gc (low l):=by omega
 exact (Nat.eq_of_mul_eq_mul_left (Nat.pos_of_ne_zero h) h2).symm
theorem neg_scale (l:List Int):(l.map fun z=>-z)=l.map ((-1:Int) * ·):=List.map_congr_left fun z _=>by omega
theorem gc_neg (l:List Int):gc (l.map fun z=>-z)=gc l:=by
 rw [neg_scale,gc_scale]
 simp
theorem gc_upr (l:List Int):gc (upr l)=gc l:=by
 unfold upr
 split
 ·exact gc_neg l
 ·rfl
theorem low_one {l:List Int} (h:gc l=1):low l=l:=by
 unfold low
 rw [h]
 simp
theorem upr_or (l:List Int):upr l=l∨upr l=l.map fun z=>-z:=by
 unfold upr
 split
 ·exact Or.inr rfl
 ·exact Or.inl rfl
theorem neg_neg_map (l:List Int):(l.map fun z=>-z).map (fun z=>-z)=l:=by
 rw [List.map_map]
 have:∀z∈l,((fun z:Int=>-z)∘fun z=>-z) z=z:=fun z _=>Int.neg_neg z
 rw [List.map_congr_left this,List.map_id']
theorem prim_eq {x y:List Int} {a b:Int} (hx:gc x=1) (hy:gc y=1) (ha:a≠0) (hb:b≠0) (h:x.map (a * ·)=y.map (b * ·)):x=y∨x=y.map fun z=>-z:=by
 have e:=norm_eq ha hb h
 rw [low_one hx,low_one hy] at e
 rcases upr_or x with h1 | h1 <;> rcases upr_or y with h2 | h2
 ·exact Or.inl (by rw [←h1,e,h2])
 ·exact Or.inr (by rw [←h1,e,h2])
 ·refine Or.inr ?_
  have:(x.map fun z=>-z)=y:=by rw [←h1,e,h2]
  rw [←this,neg_neg_map]
 ·refine Or.inl ?_
  have:(x.map fun z=>-z)=y.map fun z=>-z:=by rw [←h1,e,h2]
  rw [←neg_neg_map x,this,neg_neg_map]
theorem norm_gc {d:Nat} {m:List (List Int)} (hl:(pickL d m).length+1=d):gc (normL d m)=1:=by
 obtain ⟨⟨i,hi,hne⟩,_,_⟩:=norm_spec hl
 have hnl:normL d m=upr (low (muL d (pickL d m))):=if_pos hl
 have hmem:V (normL d m) i∈normL d m:=by
  unfold V
  have hlen:(normL d m).length=d:=norm_len (by unfold normB; exact decide_eq_true hl)
  simp [show i < (normL d m).length by omega]
 have h0:=gc_pos hmem hne
 rw [hnl,gc_upr] at h0 ⊢
 refine gc_low fun e=>h0 ?_
 have hz:∀z∈muL d (pickL d m),z=0:=fun z hz=>by
  have:=gc_dvd hz
  rw [e] at this
  simpa using this
 have hl0:low (muL d (pickL d m))=muL d (pickL d m):=by
  unfold low
  have:∀z∈muL d (pickL d m),z / ((gc (muL d (pickL d m)):Nat):Int)=id z:=fun z h=>by rw [hz z h]; simp
  rw [List.map_congr_left this,List.map_id]
 rw [hl0]
 exact e
end Go.Proofs.YtcoeneldaohpnaaGreat
