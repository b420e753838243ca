import Derived.Test.YtbdacimjebaihaaGreatLpC
import Derived.Test.YtbdacimjebaihaaGreatPnA
namespace Go.Proofs.YtbdacimjebaihaaGreat
open Lin
def hv (d:Nat) (r:List Int) (z:Nat→Int):Int:=dot d (V r) z-V r d*z d
theorem hv_lc (d:Nat) (r:List Int) (a b:Int) (z y:Nat→Int):hv d r (fun k=>a*z k+b*y k)=a*hv d r z+b*hv d r y:=by
 unfold hv
 rw [dot_comm d (V r) fun k=>a*z k+b*y k,dot_lc,dot_comm d z,dot_comm d y]
 grind
def ngL (p:List Int):List Int:=p.map fun z=>-z
theorem ng_V (p:List Int) (i:Nat):V (ngL p) i=- V p i:=by
 simp only [V,ngL]
 by_cases h:i < p.length
 ·simp [h]
 ·simp [h]
theorem hv_ng (d:Nat) (p:List Int) (z:Nat→Int):hv d (ngL p) z=- hv d p z:=by
 unfold hv
 have e:dot d (V (ngL p)) z=- dot d (V p) z:=by
  rw [←dot_neg]
  exact dot_congr (fun i _=>ng_V p i) (fun _ _=>rfl)
 rw [e,ng_V]
 grind
def SgO (c:UInt8) (v:Int):Prop:=(c=43∧0 < v)∨(c=45∧v < 0)∨(c=48∧v=0)
def HasS (d:Nat) (P:List (List Int)) (s:List UInt8) (z:Nat→Int):Prop:=0 < z d∧∀i,i < s.length→SgO (s.getD i 0) (hv d (P.getD i []) z)
def clO (p:List Int) (c:UInt8):List (List Int):=(if c=43 then [] else [p]) ++ (if c=45 then [] else [ngL p])
def clT (P:List (List Int)) (s:List UInt8) (k:Nat):List (List Int):=(List.range k).flatMap fun i=>clO (P.getD i []) (s.getD i 0)
def clR (P:List (List Int)) (s:List UInt8):List (List Int):=clT P s s.length
theorem clT_succ (P:List (List Int)) (s:List UInt8) (k:Nat):clT P s (k+1)=clT P s k ++ clO (P.getD k []) (s.getD k 0):=by
 simp [clT,List.range_succ,List.flatMap_append]
theorem clO_len (p:List Int) (c:UInt8):(clO p c).length≤2:=by
 unfold clO
 split <;> split <;> simp
theorem clT_len (P:List (List Int)) (s:List UInt8) (k:Nat):(clT P s k).length≤2*k:=by
 induction k with
 | zero=>simp [clT]
 | succ k ih=>
  rw [clT_succ,List.length_append]
  have:=clO_len (P.getD k []) (s.getD k 0)
  omega
theorem clT_mem {P:List (List Int)} {s:List UInt8} {k:Nat} {r:List Int} (h:r∈clT P s k):∃i,i < k∧(r=P.getD i []∨r=ngL (P.getD i [])):=by
 simp only [clT,List.mem_flatMap,List.mem_range] at h
 obtain ⟨i,hi,h⟩:=h
 refine ⟨i,hi,?_⟩
 unfold clO at h
 rcases List.mem_append.1 h with h | h
 ·split at h
  ·simp at h
  ·exact .inl (by simpa using h)
 ·split at h
  ·simp at h
  ·exact .inr (by simpa using h)
def SgC (c:UInt8) (v:Int):Prop:=(c≠43→v≤0)∧(c≠45→0≤v)
theorem cl_fea {d:Nat} {P:List (List Int)} {s:List UInt8} {z:Nat→Int} : Fea d (clR P s) z (z d)↔0 < z d∧∀i,i < s.length→SgC (s.getD i 0) (hv d (P.getD i []) z):=by
 constructor
 ·rintro ⟨h0,h⟩
  refine ⟨h0,fun i hi=>⟨fun hc=>?_,fun hc=>?_⟩⟩
  ·have:=h (P.getD i []) (by
    simp only [clR,clT,List.mem_flatMap,List.mem_range]
    exact ⟨i,hi,by simp only [clO,if_neg hc]; simp⟩)
   unfold hv; omega
  ·have:=h (ngL (P.getD i [])) (by
    simp only [clR,clT,List.mem_flatMap,List.mem_range]
    exact ⟨i,hi,by simp only [clO,if_neg hc]; simp⟩)
   have e:=hv_ng d (P.getD i []) z
   unfold hv at e ⊢; omega
 ·rintro ⟨h0,h⟩
  refine ⟨h0,fun r hr=>?_⟩
  simp only [clR,clT,List.mem_flatMap,List.mem_range] at hr
  obtain ⟨i,hi,hr⟩:=hr
  obtain ⟨h1,h2⟩:=h i hi
  unfold clO at hr
  rcases List.mem_append.1 hr with hr | hr
  ·split at hr
   ·simp at hr
   ·rename_i hc
    have:=h1 hc
    simp only [List.mem_singleton] at hr
    subst hr
    unfold hv at this; omega
  ·split at hr
   ·simp at hr
   ·rename_i hc
    have:=h2 hc
    simp only [List.mem_singleton] at hr
    subst hr
    have e:=hv_ng d (P.getD i []) z
    unfold hv at e this; omega
theorem SgO.near {c:UInt8} {v:Int} (h:SgO c v):SgC c v:=by
 rcases h with ⟨rfl,h⟩ | ⟨rfl,h⟩ | ⟨rfl,h⟩
 ·exact ⟨fun q=>absurd rfl q,fun _=>by omega⟩
 ·exact ⟨fun _=>by omega,fun q=>absurd rfl q⟩
 ·exact ⟨fun _=>by omega,fun _=>by omega⟩
theorem HasS.fea {d:Nat} {P:List (List Int)} {s:List UInt8} {z:Nat→Int} (h:HasS d P s z):Fea d (clR P s) z (z d):=cl_fea.2 ⟨h.1,fun i hi=>(h.2 i hi).near⟩
theorem SgO.add {c:UInt8} {v u a b:Int} (h:SgO c v) (hu:SgC c u) (ha:0 < a) (hb:0≤b):SgO c (a*v+b*u):=by
 rcases h with ⟨rfl,h⟩ | ⟨rfl,h⟩ | ⟨rfl,h⟩
 ·have h1:=hu.2 (by decide)
  have:=Int.mul_pos ha h
  have:=Int.mul_nonneg hb h1
  exact .inl ⟨rfl,by omega⟩
 ·have h1:=hu.1 (by decide)
  have:=Int.mul_neg_of_pos_of_neg ha h
  have:=Int.mul_nonpos_of_nonneg_of_nonpos hb h1
  exact .inr (.inl ⟨rfl,by omega⟩)
 ·have h1:=hu.1 (by decide)
  have h2:=hu.2 (by decide)
  have:u=0:=by omega
  subst this h
  exact .inr (.inr ⟨rfl,by simp⟩)
def Abv (d:Nat) (rows:List (List Int)) (p:List Int):Prop:=∃z:Nat→Int,Fea d rows z (z d)∧0 < hv d p z
theorem V_take {p:List Int} {d i:Nat} (h:i < d):V (p.take d) i=V p i:=take_at h
theorem dot_take (d:Nat) (p:List Int) (z:Nat→Int):dot d (V (p.take d)) z=dot d (V p) z:=dot_congr (fun _ h=>V_take h) fun _ _=>rfl
theorem fea_z {d:Nat} {rows:List (List Int)} {x:Nat→Int} {w:Int} (h:Fea d rows x w):∃z:Nat→Int,Fea d rows z (z d)∧z d=w∧∀a:Nat→Int,dot d a z=dot d a x:=by
 have e:∀a:Nat→Int,dot d a (fun k=>if k=d then w else x k)=dot d a x:=fun a=>dot_congr (fun _ _=>rfl) fun i hi=>by simp [show i≠d by omega]
 refine ⟨fun k=>if k=d then w else x k,⟨by simpa using h.1,fun r hr=>?_⟩,by simp,e⟩
 rw [e]
 simpa using h.2 r hr
theorem ga_iff {d:Nat} {rows:List (List Int)} {p:List Int} {a b:Int} (hp:p.length=d+1) (hf:∃x w,Fea d rows x w) (hB:BestV d rows (p.take d) a b) :
  (gmE d rows (p.take d)=7∨V p d*b < a)↔Abv d rows p:=by
 have hg:(p.take d).length=d:=by simp; omega
 have he:empB d rows=false:=emp_fea.2 hf
 rcases hB with ⟨hne,ha,hb⟩ | ⟨y,h0,hy,hlow⟩
 ·have h7:gmE d rows (p.take d)=7∧waysL rows (p.take d)=[]:=by
   unfold gmE at hne ⊢
   rw [if_neg (by simp [he])] at hne ⊢
   split at hne
   ·rename_i q; simp [q]
   ·exact absurd rfl hne
  refine ⟨fun _=>?_,fun _=>.inl h7.1⟩
  obtain ⟨c,hc1,hc2⟩:=ways_none.1 h7.2
  rw [hg] at hc1 hc2
  obtain ⟨x,w,hfx⟩:=hf
  obtain ⟨z,hz,-,-⟩:=fea_z hfx
  rw [dot_comm,dot_take] at hc2
  obtain ⟨N,hN0,hN⟩:∃N:Int,0≤N∧0 < hv d p z+N*dot d (V p) c:=by
   refine ⟨(hv d p z).natAbs+1,by omega,?_⟩
   have:((hv d p z).natAbs+1:Int)*1≤((hv d p z).natAbs+1:Int)*dot d (V p) c:=Int.mul_le_mul_of_nonneg_left (by omega) (by omega)
   omega
  let c0:Nat→Int:=fun k=>if k=d then 0 else c k
  have e0:∀q:Nat→Int,dot d q c0=dot d q c:=fun q=>dot_congr (fun _ _=>rfl) fun i hi=>by simp [c0,show i≠d by omega]
  have ed:c0 d=0:=by simp [c0]
  refine ⟨fun k=>1*z k+N*c0 k,⟨?_,fun r hr=>?_⟩,?_⟩
  ·have:=hz.1
   simp only [ed]; omega
  ·have k1:=hz.2 r hr
   have k2:=hc1 r hr
   rw [dot_comm,dot_lc,dot_comm d z,dot_comm d c0,e0]
   show _≤V r d*(1*z d+N*c0 d)
   rw [ed]
   rw [dot_comm] at k2
   have:=Int.mul_nonpos_of_nonneg_of_nonpos hN0 k2
   have e:V r d*(1*z d+N*0)=V r d*z d:=by grind
   rw [e]
   omega
  ·rw [hv_lc]
   have:hv d p c0=dot d (V p) c:=by unfold hv; rw [e0,ed]; omega
   rw [this]; omega
 ·have hym:=lwO_mem hy
  have hw:=(way_mem hym).1
  have hU:0 < uW rows (p.take d) y:=uW_pos hym
  have hn7:gmE d rows (p.take d)≠7:=by rw [h0]; decide
  rw [sd_wS hg,uW_wU] at hlow
  rw [uW_wU] at hU
  have hmin:∀t,t.Sublist rows→wayB (p.take d) t=true→wS (p.take d) (pks rows [] y)*wU (p.take d) t≤wS (p.take d) t*wU (p.take d) (pks rows [] y):=fun t hs hwt=>by
   obtain ⟨c,hc,rfl⟩:=ways_sub (g:=rows) hs hwt rfl
   have:=lwO_least (fun x hx=>uW_pos hx) hy c hc
   rwa [sd_wS hg,sd_wS hg,uW_wU,uW_wU] at this
  obtain ⟨hcr,-,-⟩:=low_cross hlow
  have hbp:0 < b:=by
   have h1:=low_at [wS (p.take d) (pks rows [] y),wU (p.take d) (pks rows [] y)] 1
   rw [hlow] at h1
   simp at h1
   by_cases q:0 < b
   ·exact q
   ·have:=Int.mul_nonpos_of_nonneg_of_nonpos (Int.natCast_nonneg (gc [wS (p.take d) (pks rows [] y),wU (p.take d) (pks rows [] y)])) (show b≤0 by omega)
    omega
  generalize hS:wS (p.take d) (pks rows [] y)=S at *
  generalize hUU:wU (p.take d) (pks rows [] y)=U at *
  have key:V p d*b < a↔V p d*U < S:=by
   constructor
   ·intro h
    have h1:V p d*b*U < a*U:=Int.mul_lt_mul_of_pos_right h hU
    rw [←hcr] at h1
    have h2:(V p d*U)*b < S*b:=by
     have:V p d*b*U=(V p d*U)*b:=by grind
     omega
    exact Int.lt_of_mul_lt_mul_right h2 (by omega)
   ·intro h
    have h1:V p d*U*b < S*b:=Int.mul_lt_mul_of_pos_right h hbp
    rw [hcr] at h1
    have h2:(V p d*b)*U < a*U:=by
     have:V p d*U*b=(V p d*b)*U:=by grind
     omega
    exact Int.lt_of_mul_lt_mul_right h2 (by omega)
  obtain ⟨x0,w0,hf0⟩:=hf
  constructor
  ·rintro (h | h)
   ·exact absurd h hn7
   ·obtain ⟨x,w,hfx,heq,-⟩:=opt_at hg hf0 (sub_way hym) hw (by rw [hS,hUU]; exact hmin)
    rw [hS,hUU,dot_take] at heq
    obtain ⟨z,hz,hzd,hze⟩:=fea_z hfx
    refine ⟨z,hz,?_⟩
    have h2:=key.1 h
    have h3:(V p d*w)*U < dot d (V p) x*U:=by
     rw [heq]
     have:(V p d*U)*w < S*w:=Int.mul_lt_mul_of_pos_right h2 hfx.1
     have e:V p d*w*U=V p d*U*w:=by grind
     omega
    have h4:=Int.lt_of_mul_lt_mul_right h3 (by omega)
    unfold hv
    rw [hze,hzd]; omega
  ·rintro ⟨z,hz,hzp⟩
   refine .inr (key.2 ?_)
   have hwk:=weak hg hz (fun r hr=>(sub_way hym).subset hr) hw
   rw [hS,hUU,dot_take] at hwk
   unfold hv at hzp
   have h1:(V p d*z d)*U < dot d (V p) z*U:=Int.mul_lt_mul_of_pos_right (by omega) hU
   have h2:(V p d*U)*z d < S*z d:=by
    have e:V p d*z d*U=V p d*U*z d:=by grind
    omega
   exact Int.lt_of_mul_lt_mul_right h2 (by have:=hz.1; omega)
open Classical in
noncomputable def gaC (d:Nat) (rows:List (List Int)) (p:List Int):Bool:=decide (Abv d rows p)
theorem gaC_iff {d:Nat} {rows:List (List Int)} {p:List Int} : gaC d rows p=true↔Abv d rows p:=by simp [gaC]
def mtC (ab be:Bool) (c:UInt8):Bool:=if c=43 then ab else if c=45 then be else ab == be
theorem far_pos {u v:Int} (h:0 < u):∃N:Int,0 < N∧0 < N*u+v:=by
 refine ⟨v.natAbs+1,by omega,?_⟩
 have:(v.natAbs+1:Int)*1≤(v.natAbs+1:Int)*u:=Int.mul_le_mul_of_nonneg_left (by omega) (by omega)
 omega
theorem HasS.up {d:Nat} {P:List (List Int)} {s:List UInt8} {z y:Nat→Int} (h:HasS d P s z) (hy:Fea d (clR P s) y (y d)) {p:List Int} (hp:0 < hv d p y):∃q,HasS d P s q∧0 < hv d p q:=by
 obtain ⟨N,hN,h2⟩:=far_pos (v:=hv d p z) hp
 obtain ⟨k0,k1⟩:=cl_fea.1 hy
 refine ⟨fun k=>1*z k+N*y k,⟨?_,fun i hi=>?_⟩,?_⟩
 ·have:=h.1
  have:=Int.mul_pos hN k0
  show 0 < 1*z d+N*y d
  omega
 ·rw [hv_lc]
  exact (h.2 i hi).add (k1 i hi) (by decide) (by omega)
 ·rw [hv_lc]; omega
theorem sgo_far {c:UInt8} {v N u:Int} (h:SgO c v) (hc:c≠48) (hb:(u.natAbs:Int) < N):SgO c (N*v+u):=by
 have q:∀t:Int,0 < t→N≤N*t:=fun t ht=>by
  have:N*1≤N*t:=Int.mul_le_mul_of_nonneg_left (by omega) (by omega)
  omega
 rcases h with ⟨rfl,h⟩ | ⟨rfl,h⟩ | ⟨rfl,h⟩
 ·have:=q v h
  exact .inl ⟨rfl,by omega⟩
 ·have:=q (-v) (by omega)
  rw [Int.mul_neg] at this
  exact .inr (.inl ⟨rfl,by omega⟩)
 ·exact absurd rfl hc
theorem many_bd (f:Nat→Int):∀n:Nat,∃N:Int,0 < N∧∀i,i < n→((f i).natAbs:Int) < N
 | 0=>⟨1,by decide,fun i hi=>absurd hi (by omega)⟩
 | n+1=>by
  obtain ⟨N,h0,h⟩:=many_bd f n
  refine ⟨N+(f n).natAbs,by omega,fun i hi=>?_⟩
  by_cases q:i < n
  ·have:=h i q
   omega
  ·have:i=n:=by omega
   subst this
   omega
theorem HasS.flip {d:Nat} {P:List (List Int)} {s:List UInt8} {z y:Nat→Int} (h:HasS d P s z) (hy:Fea d (clR P s) y (y d)) {p:List Int} (h0:hv d p z=0) (hp:0 < hv d p y):∃q,HasS d P s q∧hv d p q < 0:=by
 obtain ⟨N,hN,hb⟩:=many_bd (fun i=>hv d (P.getD i []) y) s.length
 obtain ⟨k0,k1⟩:=cl_fea.1 hy
 refine ⟨fun k=>(N+y d)*z k+(-1)*y k,⟨?_,fun i hi=>?_⟩,?_⟩
 ·have h1:=h.1
  have:(N+y d)*1≤(N+y d)*z d:=Int.mul_le_mul_of_nonneg_left (by omega) (by omega)
  show 0 < (N+y d)*z d+(-1)*y d
  omega
 ·rw [hv_lc]
  have hi1:=h.2 i hi
  have hi2:=k1 i hi
  have hi3:=hb i hi
  by_cases hc:s.getD i 0=48
  ·rw [hc] at hi1 hi2 ⊢
   have e1:=hi2.1 (by decide)
   have e2:=hi2.2 (by decide)
   have e3:hv d (P.getD i []) y=0:=by omega
   rcases hi1 with ⟨q,_⟩ | ⟨q,_⟩ | ⟨_,q⟩
   ·exact absurd q (by decide)
   ·exact absurd q (by decide)
   ·rw [q,e3]
    exact .inr (.inr ⟨rfl,by simp⟩)
  ·exact sgo_far hi1 hc (by omega)
 ·rw [hv_lc,h0]
  omega
theorem HasS.mix {d:Nat} {P:List (List Int)} {s:List UInt8} {z y:Nat→Int} (h:HasS d P s z) (hy:HasS d P s y) {a b:Int} (ha:0 < a) (hb:0 < b):HasS d P s fun k=>a*z k+b*y k:=by
 refine ⟨?_,fun i hi=>?_⟩
 ·have:=Int.mul_pos ha h.1
  have:=Int.mul_pos hb hy.1
  show 0 < a*z d+b*y d
  omega
 ·rw [hv_lc]
  exact (h.2 i hi).add (hy.2 i hi).near ha (by omega)
theorem abv_up {d:Nat} {P:List (List Int)} {s:List UInt8} {p:List Int} (h:∃z,HasS d P s z):Abv d (clR P s) p↔∃q,HasS d P s q∧0 < hv d p q:=by
 obtain ⟨z,hz⟩:=h
 exact ⟨fun ⟨y,hy,hp⟩=>hz.up hy hp,fun ⟨q,hq,hp⟩=>⟨q,hq.fea,hp⟩⟩
theorem abv_dn {d:Nat} {P:List (List Int)} {s:List UInt8} {p:List Int} (h:∃z,HasS d P s z):Abv d (clR P s) (ngL p)↔∃q,HasS d P s q∧hv d p q < 0:=by
 rw [abv_up h]
 constructor
 ·rintro ⟨q,hq,hp⟩
  rw [hv_ng] at hp
  exact ⟨q,hq,by omega⟩
 ·rintro ⟨q,hq,hp⟩
  refine ⟨q,hq,?_⟩
  rw [hv_ng]; omega
theorem getD_snoc {α:Type} (t:List α) (c e:α) (i:Nat):(t ++ [c]).getD i e=if i < t.length then t.getD i e else if i=t.length then c else e:=by
 by_cases h:i < t.length
 ·rw [if_pos h]
  simp [List.getD_eq_getElem?_getD,List.getElem?_append_left h]
 ·rw [if_neg h]
  by_cases h2:i=t.length
  ·subst h2; simp
  ·rw [if_neg h2]
   simp [List.getD_eq_getElem?_getD,List.getElem?_append_right (by omega:t.length≤i),show i-t.length≠0 by omega]
theorem hasS_snoc {d:Nat} {P:List (List Int)} {t:List UInt8} {c:UInt8} {z:Nat→Int} : HasS d P (t ++ [c]) z↔HasS d P t z∧SgO c (hv d (P.getD t.length []) z):=by
 constructor
 ·rintro ⟨h0,h⟩
  refine ⟨⟨h0,fun i hi=>?_⟩,?_⟩
  ·have:=h i (by simp; omega)
   rwa [getD_snoc,if_pos hi] at this
  ·have:=h t.length (by simp)
   rwa [getD_snoc,if_neg (by omega),if_pos rfl] at this
 ·rintro ⟨⟨h0,h⟩,hc⟩
  refine ⟨h0,fun i hi=>?_⟩
  rw [getD_snoc]
  by_cases q:i < t.length
  ·rw [if_pos q]; exact h i q
  ·have:i=t.length:=by simp at hi; omega
   subst this
   rw [if_neg q,if_pos rfl]; exact hc
theorem grow_one {d:Nat} {P:List (List Int)} {t:List UInt8} {c:UInt8} (h:∃z,HasS d P t z) (hc:c=43∨c=45∨c=48):mtC (gaC d (clR P t) (P.getD t.length [])) (gaC d (clR P t) (ngL (P.getD t.length []))) c=true↔∃z,HasS d P (t ++ [c]) z:=by
 have hA:=(gaC_iff (d:=d) (rows:=clR P t) (p:=P.getD t.length [])).trans (abv_up h)
 have hB:=(gaC_iff (d:=d) (rows:=clR P t) (p:=ngL (P.getD t.length []))).trans (abv_dn h)
 generalize gaC d (clR P t) (P.getD t.length [])=ab at *
 generalize gaC d (clR P t) (ngL (P.getD t.length []))=be at *
 rcases hc with rfl | rfl | rfl
 ·rw [show mtC ab be 43=ab from rfl,hA]
  exact ⟨fun ⟨q,h1,h2⟩=>⟨q,hasS_snoc.2 ⟨h1,.inl ⟨rfl,h2⟩⟩⟩,fun ⟨q,hq⟩=>by
   obtain ⟨h1,h2⟩:=hasS_snoc.1 hq
   rcases h2 with ⟨_,h2⟩ | ⟨e,_⟩ | ⟨e,_⟩
   ·exact ⟨q,h1,h2⟩
   ·exact absurd e (by decide)
   ·exact absurd e (by decide)⟩
 ·rw [show mtC ab be 45=be from rfl,hB]
  exact ⟨fun ⟨q,h1,h2⟩=>⟨q,hasS_snoc.2 ⟨h1,.inr (.inl ⟨rfl,h2⟩)⟩⟩,fun ⟨q,hq⟩=>by
   obtain ⟨h1,h2⟩:=hasS_snoc.1 hq
   rcases h2 with ⟨e,_⟩ | ⟨_,h2⟩ | ⟨e,_⟩
   ·exact absurd e (by decide)
   ·exact ⟨q,h1,h2⟩
   ·exact absurd e (by decide)⟩
 ·rw [show mtC ab be 48=(ab == be) from rfl]
  constructor
  ·intro he
   have he:ab=be:=by simpa using he
   cases hab:ab
   ·obtain ⟨z,hz⟩:=h
    refine ⟨z,hasS_snoc.2 ⟨hz,.inr (.inr ⟨rfl,?_⟩)⟩⟩
    have n1:¬0 < hv d (P.getD t.length []) z:=fun q=>by
     have:=hA.2 ⟨z,hz,q⟩
     rw [hab] at this; cases this
    have n2:¬hv d (P.getD t.length []) z < 0:=fun q=>by
     have:=hB.2 ⟨z,hz,q⟩
     rw [←he,hab] at this; cases this
    omega
   ·obtain ⟨y,hy,y1⟩:=hA.1 hab
    obtain ⟨x,hx,x1⟩:=hB.1 (by rw [←he]; exact hab)
    refine ⟨fun k=>(- hv d (P.getD t.length []) x)*y k+(hv d (P.getD t.length []) y)*x k,hasS_snoc.2 ⟨hy.mix hx (by omega) (by omega),.inr (.inr ⟨rfl,?_⟩)⟩⟩
    rw [hv_lc]; grind
  ·rintro ⟨z,hz⟩
   obtain ⟨h1,h2⟩:=hasS_snoc.1 hz
   have h0:hv d (P.getD t.length []) z=0:=by
    rcases h2 with ⟨e,_⟩ | ⟨e,_⟩ | ⟨_,e⟩
    ·exact absurd e (by decide)
    ·exact absurd e (by decide)
    ·exact e
   have i1:ab=true→be=true:=fun q=>by
    obtain ⟨y,hy,y1⟩:=hA.1 q
    exact hB.2 (h1.flip hy.fea h0 y1)
   have i2:be=true→ab=true:=fun q=>by
    obtain ⟨y,hy,y1⟩:=hB.1 q
    obtain ⟨x,hx,x1⟩:=h1.flip (p:=ngL (P.getD t.length [])) hy.fea (by rw [hv_ng]; omega) (by rw [hv_ng]; omega)
    rw [hv_ng] at x1
    exact hA.2 ⟨x,hx,by omega⟩
   cases ab <;> cases be <;> simp_all
end Go.Proofs.YtbdacimjebaihaaGreat
namespace Go.Proofs.YtbdacimjebaihaaGreat
open Lin
def Ez (d:Nat) (P:List (List Int)) (i:Nat) (z:Nat→Int):Int:=dot (d+1) (V (P.getD i [])) z
theorem Ez_lc (d:Nat) (P:List (List Int)) (i:Nat) (a b:Int) (z y:Nat→Int):Ez d P i (fun k=>a*z k+b*y k)=a*Ez d P i z+b*Ez d P i y:=dot_lcr _ _ _ _ _ _
structure HsZ (d:Nat) (P:List (List Int)) (S:Nat) (t:List UInt8) (z:Nat→Int):Prop where
 neg:z d < 0
 zr:Zr d P S z
 sg:∀i,i < t.length→SgO (t.getD i 0) (Ez d P i z)
theorem zr_lc {d:Nat} {P:List (List Int)} {S:Nat} {z y:Nat→Int} (h1:Zr d P S z) (h2:Zr d P S y) (a b:Int):Zr d P S fun k=>a*z k+b*y k:=fun i hi hb=>by
 have e:=Ez_lc d P i a b z y
 unfold Ez at e
 rw [e,h1 i hi hb,h2 i hi hb]
 simp
def alT:Nat→List (List UInt8)
 | 0=>[[]]
 | k+1=>(alT k).flatMap fun t=>[t ++ [43],t ++ [45]]
theorem alT_len:∀{k:Nat} {t:List UInt8},t∈alT k→t.length=k∧∀i,i < k→t.getD i 0=43∨t.getD i 0=45
 | 0,t,h=>by
  simp [alT] at h
  subst h
  exact ⟨rfl,fun i hi=>absurd hi (by omega)⟩
 | k+1,t,h=>by
  simp only [alT,List.mem_flatMap] at h
  obtain ⟨u,hu,h⟩:=h
  obtain ⟨h1,h2⟩:=alT_len hu
  have key:∀c:UInt8,(c=43∨c=45)→(u ++ [c]).length=k+1∧∀i,i < k+1→(u ++ [c]).getD i 0=43∨(u ++ [c]).getD i 0=45:=fun c hc=>by
   refine ⟨by simp [h1],fun i hi=>?_⟩
   rw [getD_snoc]
   by_cases q:i < u.length
   ·rw [if_pos q]; exact h2 i (by omega)
   ·rw [if_neg q,if_pos (by omega)]; exact hc
  simp only [List.mem_cons,List.not_mem_nil,or_false] at h
  rcases h with rfl | rfl
  ·exact key 43 (.inl rfl)
  ·exact key 45 (.inr rfl)
open Classical in
noncomputable def ind (p:Prop):Int:=if p then 1 else 0
theorem ind_pos {p:Prop} (h:p):ind p=1:=by unfold ind; rw [if_pos h]
theorem ind_neg {p:Prop} (h:¬p):ind p=0:=by unfold ind; rw [if_neg h]
noncomputable def rgN (d:Nat) (P:List (List Int)) (S k:Nat):Int:=((alT k).map fun t=>ind (∃z,HsZ d P S t z)).sum
theorem sum_flat2 {α:Type} (f:List UInt8→Int) (g:α→List UInt8×List UInt8):∀l:List α,((l.flatMap fun t=>[(g t).1,(g t).2]).map f).sum=(l.map fun t=>f (g t).1+f (g t).2).sum
 | []=>rfl
 | a :: l=>by
  have:=sum_flat2 f g l
  simp only [List.flatMap_cons,List.map_append,List.sum_append,List.map_cons,List.map_nil,List.sum_cons,List.sum_nil] at this ⊢
  rw [this]
  omega
theorem hsZ_snoc {d:Nat} {P:List (List Int)} {S:Nat} {t:List UInt8} {c:UInt8} {z:Nat→Int} : HsZ d P S (t ++ [c]) z↔HsZ d P S t z∧SgO c (Ez d P t.length z):=by
 constructor
 ·intro h
  refine ⟨⟨h.neg,h.zr,fun i hi=>?_⟩,?_⟩
  ·have:=h.sg i (by simp; omega)
   rwa [getD_snoc,if_pos hi] at this
  ·have:=h.sg t.length (by simp)
   rwa [getD_snoc,if_neg (by omega),if_pos rfl] at this
 ·rintro ⟨h,hc⟩
  refine ⟨h.neg,h.zr,fun i hi=>?_⟩
  rw [getD_snoc]
  by_cases q:i < t.length
  ·rw [if_pos q]; exact h.sg i q
  ·have:i=t.length:=by simp at hi; omega
   subst this
   rw [if_neg q,if_pos rfl]; exact hc
def ad (S k:Nat):Nat:=S ||| 2 ^ k
theorem ad_bit (S k i:Nat):(ad S k).testBit i=true↔S.testBit i=true∨i=k:=by
 unfold ad
 rw [Nat.testBit_or,Bool.or_eq_true,Nat.testBit_two_pow,decide_eq_true_iff]
 exact ⟨fun h=>h.imp id Eq.symm,fun h=>h.imp id Eq.symm⟩
theorem zr_ad {d:Nat} {P:List (List Int)} {S k:Nat} {z:Nat→Int} (hk:k < P.length):Zr d P (ad S k) z↔Zr d P S z∧Ez d P k z=0:=by
 constructor
 ·intro h
  exact ⟨fun i hi hb=>h i hi ((ad_bit S k i).2 (.inl hb)),h k hk ((ad_bit S k k).2 (.inr rfl))⟩
 ·rintro ⟨h,h0⟩ i hi hb
  rcases (ad_bit S k i).1 hb with hb | rfl
  ·exact h i hi hb
  ·exact h0
theorem hsZ_ad {d:Nat} {P:List (List Int)} {S k:Nat} {t:List UInt8} {z:Nat→Int} (hk:k < P.length):HsZ d P (ad S k) t z↔HsZ d P S t z∧Ez d P k z=0:=
 ⟨fun h=>⟨⟨h.neg,((zr_ad hk).1 h.zr).1,h.sg⟩,((zr_ad hk).1 h.zr).2⟩,fun ⟨h,h0⟩=>⟨h.neg,(zr_ad hk).2 ⟨h.zr,h0⟩,h.sg⟩⟩
theorem HsZ.mix {d:Nat} {P:List (List Int)} {S:Nat} {t:List UInt8} {z y:Nat→Int} (h:HsZ d P S t z) (hy:HsZ d P S t y) {a b:Int} (ha:0 < a) (hb:0 < b):HsZ d P S t fun k=>a*z k+b*y k:=by
 refine ⟨?_,zr_lc h.zr hy.zr a b,fun i hi=>?_⟩
 ·have h1:=Int.mul_neg_of_pos_of_neg ha h.neg
  have h2:=Int.mul_neg_of_pos_of_neg hb hy.neg
  show a*z d+b*y d < 0
  omega
 ·rw [Ez_lc]
  exact (h.sg i hi).add (hy.sg i hi).near ha (by omega)
theorem HsZ.near {d:Nat} {P:List (List Int)} {S:Nat} {t:List UInt8} {z v:Nat→Int} (h:HsZ d P S t z) (hv:Zr d P S v) (h0:∀i,i < t.length→t.getD i 0≠48) (e:Int):∃N:Int,0 < N∧HsZ d P S t fun k=>N*z k+e*v k:=by
 obtain ⟨N1,hN1,hb1⟩:=many_bd (fun i=>e*Ez d P i v) t.length
 refine ⟨N1+(e*v d).natAbs,by omega,?_,zr_lc h.zr hv _ _,fun i hi=>?_⟩
 ·have h1:(N1+(e*v d).natAbs:Int)*z d≤(N1+(e*v d).natAbs:Int)*(-1):=Int.mul_le_mul_of_nonneg_left (by have:=h.neg; omega) (by omega)
  show (N1+(e*v d).natAbs:Int)*z d+e*v d < 0
  omega
 ·rw [Ez_lc]
  exact sgo_far (h.sg i hi) (h0 i hi) (by have:=hb1 i hi; omega)
theorem alT_ne {k:Nat} {t:List UInt8} (h:t∈alT k):∀i,i < t.length→t.getD i 0≠48:=fun i hi=>by
 obtain ⟨h1,h2⟩:=alT_len h
 rcases h2 i (by omega) with q | q <;> rw [q] <;> decide
theorem split_one {d:Nat} {P:List (List Int)} {S k:Nat} (hk:k < P.length) (hn:thr d P S k=false) {t:List UInt8} (ht:t∈alT k) :
  ind (∃z,HsZ d P S (t ++ [43]) z)+ind (∃z,HsZ d P S (t ++ [45]) z)=ind (∃z,HsZ d P S t z)+ind (∃z,HsZ d P (ad S k) t z):=by
 have htl:=(alT_len ht).1
 by_cases hz:∃z,HsZ d P S t z
 ·obtain ⟨v,hv,hvn⟩:∃v,Zr d P S v∧Ez d P k v≠0:=by
   refine Classical.byContradiction fun h=>?_
   have:thr d P S k=true:=thr_iff.2 fun v hv=>Classical.byContradiction fun h2=>h ⟨v,hv,h2⟩
   rw [hn] at this; cases this
  by_cases h0:∃z,HsZ d P (ad S k) t z
  ·obtain ⟨z,hz0⟩:=h0
   obtain ⟨h1,h2⟩:=(hsZ_ad hk).1 hz0
   have both:∀e:Int,e≠0→∃y,HsZ d P S t y∧Ez d P k y=e*Ez d P k v:=fun e _=>by
    obtain ⟨N,_,hN⟩:=h1.near hv (alT_ne ht) e
    refine ⟨_,hN,?_⟩
    rw [Ez_lc,h2]; omega
   have hp:∃y,HsZ d P S (t ++ [43]) y:=by
    rcases Int.lt_or_gt_of_ne hvn with q | q
    ·obtain ⟨y,hy,he⟩:=both (-1) (by decide)
     exact ⟨y,hsZ_snoc.2 ⟨hy,.inl ⟨rfl,by rw [htl,he]; omega⟩⟩⟩
    ·obtain ⟨y,hy,he⟩:=both 1 (by decide)
     exact ⟨y,hsZ_snoc.2 ⟨hy,.inl ⟨rfl,by rw [htl,he]; omega⟩⟩⟩
   have hm:∃y,HsZ d P S (t ++ [45]) y:=by
    rcases Int.lt_or_gt_of_ne hvn with q | q
    ·obtain ⟨y,hy,he⟩:=both 1 (by decide)
     exact ⟨y,hsZ_snoc.2 ⟨hy,.inr (.inl ⟨rfl,by rw [htl,he]; omega⟩)⟩⟩
    ·obtain ⟨y,hy,he⟩:=both (-1) (by decide)
     exact ⟨y,hsZ_snoc.2 ⟨hy,.inr (.inl ⟨rfl,by rw [htl,he]; omega⟩)⟩⟩
   rw [ind_pos hp,ind_pos hm,ind_pos hz,ind_pos ⟨z,hz0⟩]
  ·rw [ind_pos hz,ind_neg h0]
   obtain ⟨z,hz1⟩:=hz
   have hne:Ez d P k z≠0:=fun e=>h0 ⟨z,(hsZ_ad hk).2 ⟨hz1,e⟩⟩
   have one:∀y,HsZ d P S t y→0 < Ez d P k z*Ez d P k y:=fun y hy=>by
    refine Classical.byContradiction fun hc=>?_
    have hy0:Ez d P k y≠0:=fun e=>h0 ⟨y,(hsZ_ad hk).2 ⟨hy,e⟩⟩
    refine h0 ⟨fun q=>(Ez d P k y).natAbs*z q+(Ez d P k z).natAbs*y q,(hsZ_ad hk).2 ⟨hz1.mix hy (by omega) (by omega),?_⟩⟩
    rw [Ez_lc]
    rcases Int.lt_or_gt_of_ne hne with q | q <;> rcases Int.lt_or_gt_of_ne hy0 with r | r
    ·exact absurd (Int.mul_pos_of_neg_of_neg q r) hc
    ·rw [show ((Ez d P k y).natAbs:Int)=Ez d P k y by omega,show ((Ez d P k z).natAbs:Int)=- Ez d P k z by omega]; grind
    ·rw [show ((Ez d P k y).natAbs:Int)=- Ez d P k y by omega,show ((Ez d P k z).natAbs:Int)=Ez d P k z by omega]; grind
    ·exact absurd (Int.mul_pos q r) hc
   rcases Int.lt_or_gt_of_ne hne with q | q
   ·have hm:∃y,HsZ d P S (t ++ [45]) y:=⟨z,hsZ_snoc.2 ⟨hz1,.inr (.inl ⟨rfl,by rw [htl]; exact q⟩)⟩⟩
    have hp:¬∃y,HsZ d P S (t ++ [43]) y:=fun ⟨y,hy⟩=>by
     obtain ⟨h1,h2⟩:=hsZ_snoc.1 hy
     rw [htl] at h2
     have h3:=one y h1
     rcases h2 with ⟨_,h2⟩ | ⟨e,_⟩ | ⟨e,_⟩
     ·have:=Int.mul_neg_of_neg_of_pos q h2; omega
     ·exact absurd e (by decide)
     ·exact absurd e (by decide)
    rw [ind_pos hm,ind_neg hp]; rfl
   ·have hp:∃y,HsZ d P S (t ++ [43]) y:=⟨z,hsZ_snoc.2 ⟨hz1,.inl ⟨rfl,by rw [htl]; exact q⟩⟩⟩
    have hm:¬∃y,HsZ d P S (t ++ [45]) y:=fun ⟨y,hy⟩=>by
     obtain ⟨h1,h2⟩:=hsZ_snoc.1 hy
     rw [htl] at h2
     have h3:=one y h1
     rcases h2 with ⟨e,_⟩ | ⟨_,h2⟩ | ⟨e,_⟩
     ·exact absurd e (by decide)
     ·have:=Int.mul_neg_of_pos_of_neg q h2; omega
     ·exact absurd e (by decide)
    rw [ind_pos hp,ind_neg hm]
 ·have h1:∀c:UInt8,¬∃z,HsZ d P S (t ++ [c]) z:=fun c ⟨z,h⟩=>hz ⟨z,(hsZ_snoc.1 h).1⟩
  have h2:¬∃z,HsZ d P (ad S k) t z:=fun ⟨z,h⟩=>hz ⟨z,((hsZ_ad hk).1 h).1⟩
  rw [ind_neg (h1 43),ind_neg (h1 45),ind_neg hz,ind_neg h2]
theorem list_sum_add {α:Type} (f g:α→Int):∀l:List α,(l.map fun x=>f x+g x).sum=(l.map f).sum+(l.map g).sum
 | []=>rfl
 | a :: l=>by
  simp only [List.map_cons,List.sum_cons]
  rw [list_sum_add f g l]; omega
theorem rgN_step {d:Nat} {P:List (List Int)} {S k:Nat} (hk:k < P.length) (hn:thr d P S k=false):rgN d P S (k+1)=rgN d P S k+rgN d P (ad S k) k:=by
 unfold rgN
 rw [←list_sum_add]
 show (((alT k).flatMap fun t=>[t ++ [43],t ++ [45]]).map _).sum=_
 rw [sum_flat2 _ fun t=>(t ++ [43],t ++ [45])]
 congr 1
 exact List.map_congr_left fun t ht=>split_one hk hn ht
theorem list_zero {α:Type} {f:α→Int} : ∀{l:List α},(∀x∈l,f x=0)→(l.map f).sum=0
 | [],_=>rfl
 | a :: l,h=>by
  rw [List.map_cons,List.sum_cons,h a (by simp),list_zero fun x hx=>h x (List.mem_cons_of_mem _ hx)]
  rfl
theorem rgN_thr {d:Nat} {P:List (List Int)} {S k:Nat} (hn:thr d P S k=true):rgN d P S (k+1)=0:=by
 refine list_zero fun t ht=>ind_neg fun ⟨z,hz⟩=>?_
 simp only [alT,List.mem_flatMap] at ht
 obtain ⟨u,hu,h⟩:=ht
 have hul:=(alT_len hu).1
 have h0:=fun (z:Nat→Int) (h:Zr d P S z)=>thr_iff.1 hn z h
 have key:∀c:UInt8,c≠48→¬HsZ d P S (u ++ [c]) z:=fun c hc h=>by
  obtain ⟨h1,h2⟩:=hsZ_snoc.1 h
  have e:Ez d P u.length z=0:=by rw [hul]; exact h0 z h1.zr
  rw [e] at h2
  rcases h2 with ⟨_,q⟩ | ⟨_,q⟩ | ⟨q,_⟩
  ·omega
  ·omega
  ·exact hc q
 simp only [List.mem_cons,List.not_mem_nil,or_false] at h
 rcases h with rfl | rfl
 ·exact key 43 (by decide) hz
 ·exact key 45 (by decide) hz
end Go.Proofs.YtbdacimjebaihaaGreat
namespace Go.Proofs.YtbdacimjebaihaaGreat
open Lin
def Xk (d:Nat) (P:List (List Int)) (x:Int) (S k:Nat):Int:=sumN (2 ^ k) fun T=>if cen d P (S ||| T)=true then sg T*x ^ (d-rS d P (S ||| T)) else 0
def sgB:Bool:=(List.range 6).all fun k=>(List.range (2 ^ k)).all fun T=>sg (2 ^ k+T) == - sg T && decide ((2 ^ k+T)=2 ^ k ||| T)
theorem sgB_t:sgB=true:=by decide +kernel
theorem sg_add {k T:Nat} (hk:k < 6) (hT:T < 2 ^ k):sg (2 ^ k+T)=- sg T∧2 ^ k+T=2 ^ k ||| T:=by
 have h1:=List.all_eq_true.1 sgB_t k (List.mem_range.2 hk)
 have h2:=List.all_eq_true.1 h1 T (List.mem_range.2 hT)
 rw [Bool.and_eq_true,decide_eq_true_iff] at h2
 exact ⟨eq_of_beq h2.1,h2.2⟩
theorem sumN_two (n:Nat) (f:Nat→Int):∀m,sumN (n+m) f=sumN n f+sumN m fun i=>f (n+i)
 | 0=>by simp [sumN]
 | m+1=>by
  rw [←Nat.add_assoc,sumN,sumN_two n f m,sumN]
  omega
theorem Xk_step {d:Nat} {P:List (List Int)} {x:Int} {S k:Nat} (hk:k < 6):Xk d P x S (k+1)=Xk d P x S k-Xk d P x (ad S k) k:=by
 unfold Xk
 rw [show 2 ^ (k+1)=2 ^ k+2 ^ k by rw [Nat.pow_succ]; omega,sumN_two]
 have:(sumN (2 ^ k) fun i=>if cen d P (S ||| (2 ^ k+i))=true then sg (2 ^ k+i)*x ^ (d-rS d P (S ||| (2 ^ k+i))) else 0)=- sumN (2 ^ k) fun T=>if cen d P (ad S k ||| T)=true then sg T*x ^ (d-rS d P (ad S k ||| T)) else 0:=by
  rw [←sumN_neg]
  refine sumN_congr fun T hT=>?_
  obtain ⟨e1,e2⟩:=sg_add hk hT
  have e3:S ||| (2 ^ k+T)=ad S k ||| T:=by
   rw [e2]
   unfold ad
   rw [Nat.or_assoc]
  rw [e3,e1]
  split
  ·grind
  ·rfl
 rw [this]
 omega
theorem same_or {d:Nat} {P:List (List Int)} {S S' T:Nat} (h:∀v,Zr d P S v↔Zr d P S' v):cen d P (S ||| T)=cen d P (S' ||| T)∧rS d P (S ||| T)=rS d P (S' ||| T):=by
 have e:∀v,Zr d P (S ||| T) v↔Zr d P (S' ||| T) v:=fun v=>by
  have key:∀A,Zr d P (A ||| T) v↔Zr d P A v∧Zr d P T v:=fun A=>by
   constructor
   ·intro h
    exact ⟨fun i hi hb=>h i hi (by rw [Nat.testBit_or,hb]; rfl),fun i hi hb=>h i hi (by rw [Nat.testBit_or,hb,Bool.or_true])⟩
   ·rintro ⟨h1,h2⟩ i hi hb
    rw [Nat.testBit_or,Bool.or_eq_true] at hb
    rcases hb with hb | hb
    ·exact h1 i hi hb
    ·exact h2 i hi hb
  rw [key,key,h v]
 refine ⟨?_,Nat.le_antisymm (rS_le fun v=>(e v).2) (rS_le fun v=>(e v).1)⟩
 rw [Bool.eq_iff_iff,cen_iff,cen_iff]
 exact ⟨fun ⟨v,h1,h2⟩=>⟨v,(e v).1 h1,h2⟩,fun ⟨v,h1,h2⟩=>⟨v,(e v).2 h1,h2⟩⟩
theorem Xk_thr {d:Nat} {P:List (List Int)} {x:Int} {S k:Nat} (hk:k < P.length) (ht:thr d P S k=true) (j:Nat):Xk d P x (ad S k) j=Xk d P x S j:=by
 unfold Xk
 refine sumN_congr fun T _=>?_
 obtain ⟨e1,e2⟩:=same_or (T:=T) (S:=ad S k) (S':=S) (d:=d) (P:=P) fun v=>(zr_ad hk).trans ⟨fun h=>h.1,fun h=>⟨h,thr_iff.1 ht v h⟩⟩
 rw [e1,e2]
theorem cen_or {d:Nat} {P:List (List Int)} {S T:Nat} (h:cen d P S=false):cen d P (S ||| T)=false:=by
 refine Bool.eq_false_iff.2 fun hc=>?_
 obtain ⟨v,h1,h2⟩:=cen_iff.1 hc
 have:cen d P S=true:=cen_iff.2 ⟨v,fun i hi hb=>h1 i hi (by rw [Nat.testBit_or,hb]; rfl),h2⟩
 rw [h] at this; cases this
theorem Xk_none {d:Nat} {P:List (List Int)} {x:Int} {S:Nat} (h:cen d P S=false) (k:Nat):Xk d P x S k=0:=
 sumN_zero fun T _=>by rw [cen_or h]; rfl
theorem rg_none {d:Nat} {P:List (List Int)} {S:Nat} (h:cen d P S=false) (k:Nat):rgN d P S k=0:=
 list_zero fun t _=>ind_neg fun ⟨z,hz⟩=>by
  have:cen d P S=true:=cen_iff.2 ⟨z,hz.zr,by have:=hz.neg; omega⟩
  rw [h] at this; cases this
theorem rS_ad {d:Nat} {P:List (List Int)} {S k:Nat} (hk:k < P.length) (hn:thr d P S k=false):rS d P (ad S k)=rS d P S+1:=by
 have e:rS d P (ad S k)=rk (d+1) (plS P S ++ [P.getD k []]):=rk_eq fun v=>by
  constructor
  ·intro h
   refine zr_iff.1 ((zr_ad hk).2 ⟨zr_iff.2 fun r hr=>h r (List.mem_append_left _ hr),h _ (by simp)⟩)
  ·intro h r hr
   obtain ⟨h1,h2⟩:=(zr_ad hk).1 (zr_iff.2 h)
   rcases List.mem_append.1 hr with hr | hr
   ·exact zr_iff.1 h1 r hr
   ·rw [List.mem_singleton.1 hr]; exact h2
 have h1:=rk_add (d+1) (plS P S) [P.getD k []]
 have h2:rk (d+1) (plS P S ++ [P.getD k []])≠rk (d+1) (plS P S):=fun he=>by
  unfold thr at hn
  rw [he] at hn
  simp at hn
 have h3:rk (d+1) (plS P S)≤rk (d+1) (plS P S ++ [P.getD k []]):=rk_le fun v hv r hr=>hv r (List.mem_append_left _ hr)
 unfold rS at e ⊢
 simp only [List.length_cons,List.length_nil] at h1
 omega
theorem cen_rank {d:Nat} {P:List (List Int)} {S:Nat} (h:cen d P S=true):rS d P S≤d:=by
 rw [←rS_rk h]
 exact rk_cap _ _
def mi (n:Nat):Int:=(-1) ^ n
theorem mi_succ (n:Nat):mi (n+1)=- mi n:=by
 unfold mi
 rw [Int.pow_succ]; omega
theorem mi_sq (n:Nat):mi n*mi n=1:=by
 induction n with
 | zero=>rfl
 | succ n ih=>rw [mi_succ]; grind
theorem regions {d:Nat} {P:List (List Int)} : ∀(k S:Nat),k≤P.length→k≤6→rgN d P S k=mi (d-rS d P S)*Xk d P (-1) S k
 | 0,S,_,_=>by
  cases hc:cen d P S
  ·rw [rg_none hc,Xk_none hc,Int.mul_zero]
  ·have h1:rgN d P S 0=1:=by
    obtain ⟨v,h1,h2⟩:=cen_iff.1 hc
    have:∃z,HsZ d P S [] z:=by
     rcases Int.lt_or_gt_of_ne h2 with q | q
     ·exact ⟨v,q,h1,fun i hi=>absurd hi (by simp)⟩
     ·refine ⟨fun k=>(-1)*v k+0*v k,?_,zr_lc h1 h1 _ _,fun i hi=>absurd hi (by simp)⟩
      show (-1)*v d+0*v d < 0
      omega
    unfold rgN
    simp only [alT,List.map_cons,List.map_nil,List.sum_cons,List.sum_nil]
    rw [ind_pos this]; rfl
   have h2:Xk d P (-1) S 0=mi (d-rS d P S):=by
    unfold Xk
    show sumN 1 _=_
    simp only [sumN,Int.zero_add,Nat.or_zero]
    rw [if_pos hc]
    have:sg 0=1:=by decide
    rw [this,Int.one_mul]; rfl
   rw [h1,h2,mi_sq]
 | k+1,S,hk,h6=>by
  cases hc:cen d P S
  ·rw [rg_none hc,Xk_none hc,Int.mul_zero]
  ·rw [Xk_step (by omega)]
   cases ht:thr d P S k
   ·rw [rgN_step (by omega) ht,regions k S (by omega) (by omega),regions k (ad S k) (by omega) (by omega)]
    cases hc2:cen d P (ad S k)
    ·rw [Xk_none hc2]; simp
    ·have h1:=rS_ad (by omega) ht
     have h2:=cen_rank hc2
     have h3:d-rS d P S=(d-rS d P (ad S k))+1:=by omega
     rw [h3,mi_succ]
     grind
   ·rw [rgN_thr ht,Xk_thr (by omega) ht]
    simp
end Go.Proofs.YtbdacimjebaihaaGreat
namespace Go.Proofs.YtbdacimjebaihaaGreat
open Lin
def rcZ (d:Nat) (P:List (List Int)) (S:Nat) (t:List UInt8) (v:Nat→Int):Prop:=v d=0∧Zr d P S v∧∀i,i < t.length→SgC (t.getD i 0) (Ez d P i v)
def liZ (d:Nat) (P:List (List Int)) (S k:Nat) (v:Nat→Int):Prop:=v d=0∧Zr d P S v∧∀i,i < k→Ez d P i v=0
def rbZ (d:Nat) (P:List (List Int)) (S:Nat) (t:List UInt8):Prop:=∀v,rcZ d P S t v→liZ d P S t.length v
noncomputable def bdN (d:Nat) (P:List (List Int)) (S k:Nat):Int:=((alT k).map fun t=>ind ((∃z,HsZ d P S t z)∧rbZ d P S t)).sum
theorem rcZ_snoc {d:Nat} {P:List (List Int)} {S:Nat} {t:List UInt8} {c:UInt8} {v:Nat→Int} : rcZ d P S (t ++ [c]) v↔rcZ d P S t v∧SgC c (Ez d P t.length v):=by
 constructor
 ·rintro ⟨h0,h1,h2⟩
  refine ⟨⟨h0,h1,fun i hi=>?_⟩,?_⟩
  ·have:=h2 i (by simp; omega)
   rwa [getD_snoc,if_pos hi] at this
  ·have:=h2 t.length (by simp)
   rwa [getD_snoc,if_neg (by omega),if_pos rfl] at this
 ·rintro ⟨⟨h0,h1,h2⟩,hc⟩
  refine ⟨h0,h1,fun i hi=>?_⟩
  rw [getD_snoc]
  by_cases q:i < t.length
  ·rw [if_pos q]; exact h2 i q
  ·have:i=t.length:=by simp at hi; omega
   subst this
   rw [if_neg q,if_pos rfl]; exact hc
theorem liZ_succ {d:Nat} {P:List (List Int)} {S k:Nat} {v:Nat→Int} : liZ d P S (k+1) v↔liZ d P S k v∧Ez d P k v=0:=by
 constructor
 ·rintro ⟨h0,h1,h2⟩
  exact ⟨⟨h0,h1,fun i hi=>h2 i (by omega)⟩,h2 k (by omega)⟩
 ·rintro ⟨⟨h0,h1,h2⟩,h3⟩
  refine ⟨h0,h1,fun i hi=>?_⟩
  by_cases e:i=k
  ·subst e; exact h3
  ·exact h2 i (by omega)
theorem liZ_ad {d:Nat} {P:List (List Int)} {S k:Nat} {v:Nat→Int} (hk:k < P.length) (j:Nat):liZ d P (ad S k) j v↔liZ d P S j v∧Ez d P k v=0:=by
 unfold liZ
 rw [zr_ad hk]
 exact ⟨fun ⟨a,⟨b,c⟩,e⟩=>⟨⟨a,b,e⟩,c⟩,fun ⟨⟨a,b,e⟩,c⟩=>⟨a,⟨b,c⟩,e⟩⟩
theorem rcZ_ad {d:Nat} {P:List (List Int)} {S k:Nat} {t:List UInt8} {v:Nat→Int} (hk:k < P.length):rcZ d P (ad S k) t v↔rcZ d P S t v∧Ez d P k v=0:=by
 unfold rcZ
 rw [zr_ad hk]
 exact ⟨fun ⟨a,⟨b,c⟩,e⟩=>⟨⟨a,b,e⟩,c⟩,fun ⟨⟨a,b,e⟩,c⟩=>⟨a,⟨b,c⟩,e⟩⟩
theorem SgC.lc {c:UInt8} {u v a b:Int} (h1:SgC c u) (h2:SgC c v) (ha:0≤a) (hb:0≤b):SgC c (a*u+b*v):=
 ⟨fun hc=>by
  have:=Int.mul_nonpos_of_nonneg_of_nonpos ha (h1.1 hc)
  have:=Int.mul_nonpos_of_nonneg_of_nonpos hb (h2.1 hc)
  omega,fun hc=>by
  have:=Int.mul_nonneg ha (h1.2 hc)
  have:=Int.mul_nonneg hb (h2.2 hc)
  omega⟩
theorem sgC_zero (c:UInt8):SgC c 0:=⟨fun _=>Int.le_refl _,fun _=>Int.le_refl _⟩
theorem liZ.rc {d:Nat} {P:List (List Int)} {S:Nat} {t:List UInt8} {v:Nat→Int} (h:liZ d P S t.length v):rcZ d P S t v:=⟨h.1,h.2.1,fun i hi=>by rw [h.2.2 i hi]; exact sgC_zero _⟩
theorem rcZ.lc {d:Nat} {P:List (List Int)} {S:Nat} {t:List UInt8} {u v:Nat→Int} (h1:rcZ d P S t u) (h2:rcZ d P S t v) {a b:Int} (ha:0≤a) (hb:0≤b):rcZ d P S t fun q=>a*u q+b*v q:=
 ⟨by show a*u d+b*v d=0; rw [h1.1,h2.1]; simp,zr_lc h1.2.1 h2.2.1 a b,fun i hi=>by rw [Ez_lc]; exact (h1.2.2 i hi).lc (h2.2.2 i hi) ha hb⟩
theorem liZ.lc {d:Nat} {P:List (List Int)} {S k:Nat} {u v:Nat→Int} (h1:liZ d P S k u) (h2:liZ d P S k v) (a b:Int):liZ d P S k fun q=>a*u q+b*v q:=
 ⟨by show a*u d+b*v d=0; rw [h1.1,h2.1]; simp,zr_lc h1.2.1 h2.2.1 a b,fun i hi=>by rw [Ez_lc,h1.2.2 i hi,h2.2.2 i hi]; simp⟩
theorem sgc43 {v:Int} : SgC 43 v↔0≤v:=⟨fun h=>h.2 (by decide),fun h=>⟨fun q=>absurd rfl q,fun _=>h⟩⟩
theorem sgc45 {v:Int} : SgC 45 v↔v≤0:=⟨fun h=>h.1 (by decide),fun h=>⟨fun _=>h,fun q=>absurd rfl q⟩⟩
theorem two_ways {d:Nat} {P:List (List Int)} {S k:Nat} {t:List UInt8} (ht:t∈alT k) {u v:Nat→Int} (hu:rcZ d P S t u) (hv:rcZ d P S t v) (h1:0 < Ez d P k u) (h2:Ez d P k v < 0) (h0:∀x,rcZ d P S t x→Ez d P k x=0→liZ d P S k x):liZ d P S k v:=by
 obtain ⟨htl,hts⟩:=alT_len ht
 have hl:=h0 (fun q=>(- Ez d P k v)*u q+Ez d P k u*v q) (hu.lc hv (by omega) (by omega)) (by rw [Ez_lc]; grind)
 refine ⟨hv.1,hv.2.1,fun i hi=>?_⟩
 have e:=hl.2.2 i hi
 rw [Ez_lc] at e
 have a1:=hu.2.2 i (by omega)
 have a2:=hv.2.2 i (by omega)
 rcases hts i hi with q | q
 ·rw [q,sgc43] at a1 a2
  have p1:=Int.mul_nonneg (show 0≤- Ez d P k v by omega) a1
  have p2:0≤Ez d P k u*Ez d P i v:=Int.mul_nonneg (by omega) a2
  have p3:Ez d P k u*Ez d P i v=0:=by omega
  rcases Int.mul_eq_zero.1 p3 with z | z
  ·omega
  ·exact z
 ·rw [q,sgc45] at a1 a2
  have p1:=Int.mul_nonpos_of_nonneg_of_nonpos (show 0≤- Ez d P k v by omega) a1
  have p2:Ez d P k u*Ez d P i v≤0:=Int.mul_nonpos_of_nonneg_of_nonpos (by omega) a2
  have p3:Ez d P k u*Ez d P i v=0:=by omega
  rcases Int.mul_eq_zero.1 p3 with z | z
  ·omega
  ·exact z
theorem ngz {d:Nat} {P:List (List Int)} {i:Nat} {v:Nat→Int} : Ez d P i (fun q=>(-1)*v q+0*v q)=- Ez d P i v:=by rw [Ez_lc]; omega
theorem HsZ.go {d:Nat} {P:List (List Int)} {S:Nat} {t:List UInt8} {z v:Nat→Int} (h:HsZ d P S t z) (hv:rcZ d P S t v) {N:Int} (hN:0≤N):HsZ d P S t fun q=>1*z q+N*v q:=by
 refine ⟨?_,zr_lc h.zr hv.2.1 _ _,fun i hi=>?_⟩
 ·show 1*z d+N*v d < 0
  rw [hv.1]
  have:=h.neg
  omega
 ·rw [Ez_lc]
  exact (h.sg i hi).add (hv.2.2 i hi) (by decide) hN
theorem bd_one {d:Nat} {P:List (List Int)} {S k:Nat} (hk:k < P.length) (hn:thr d P S k=false) (hkl:∀v,liZ d P S k v→Ez d P k v=0) {t:List UInt8} (ht:t∈alT k) :
  ind ((∃z,HsZ d P S (t ++ [43]) z)∧rbZ d P S (t ++ [43]))+ind ((∃z,HsZ d P S (t ++ [45]) z)∧rbZ d P S (t ++ [45]))=ind ((∃z,HsZ d P S t z)∧rbZ d P S t)+ind ((∃z,HsZ d P (ad S k) t z)∧rbZ d P (ad S k) t):=by
 have htl:=(alT_len ht).1
 have hsp:=split_one hk hn ht
 have eP:rbZ d P S (t ++ [43])↔∀v,rcZ d P S t v→0≤Ez d P k v→liZ d P S k v:=by
  unfold rbZ
  refine forall_congr' fun v=>?_
  rw [rcZ_snoc,sgc43,List.length_append,List.length_singleton,htl,liZ_succ]
  exact ⟨fun h h1 h2=>(h ⟨h1,h2⟩).1,fun h ⟨h1,h2⟩=>⟨h h1 h2,hkl v (h h1 h2)⟩⟩
 have eM:rbZ d P S (t ++ [45])↔∀v,rcZ d P S t v→Ez d P k v≤0→liZ d P S k v:=by
  unfold rbZ
  refine forall_congr' fun v=>?_
  rw [rcZ_snoc,sgc45,List.length_append,List.length_singleton,htl,liZ_succ]
  exact ⟨fun h h1 h2=>(h ⟨h1,h2⟩).1,fun h ⟨h1,h2⟩=>⟨h h1 h2,hkl v (h h1 h2)⟩⟩
 have e0:rbZ d P (ad S k) t↔∀v,rcZ d P S t v→Ez d P k v=0→liZ d P S k v:=by
  unfold rbZ
  refine forall_congr' fun v=>?_
  rw [rcZ_ad hk,htl,liZ_ad hk]
  exact ⟨fun h h1 h2=>(h ⟨h1,h2⟩).1,fun h ⟨h1,h2⟩=>⟨h h1 h2,h2⟩⟩
 have eA:rbZ d P S t↔∀v,rcZ d P S t v→liZ d P S k v:=by
  unfold rbZ
  rw [htl]
 rw [eP,eM,e0,eA]
 by_cases hA:∀v,rcZ d P S t v→liZ d P S k v
 ·have h1:∀(p q:Prop),q→ind (p∧q)=ind p:=fun p q hq=>by
   by_cases hp:p
   ·rw [ind_pos hp,ind_pos ⟨hp,hq⟩]
   ·rw [ind_neg hp,ind_neg fun h=>hp h.1]
  rw [h1 _ _ (fun v hv _=>hA v hv),h1 _ _ (fun v hv _=>hA v hv),h1 _ _ hA,h1 _ _ (fun v hv _=>hA v hv)]
  exact hsp
 ·rw [ind_neg (p:=(∃z,HsZ d P S t z)∧∀v,rcZ d P S t v→liZ d P S k v) fun h=>hA h.2,Int.zero_add]
  by_cases hB:∀v,rcZ d P S t v→Ez d P k v=0→liZ d P S k v
  ·obtain ⟨u,hu,hul⟩:∃u,rcZ d P S t u∧¬liZ d P S k u:=by
    refine Classical.byContradiction fun h=>hA fun v hv=>Classical.byContradiction fun h2=>h ⟨v,hv,h2⟩
   have hu0:Ez d P k u≠0:=fun e=>hul (hB u hu e)
   have h1:∀(p q:Prop),q→ind (p∧q)=ind p:=fun p q hq=>by
    by_cases hp:p
    ·rw [ind_pos hp,ind_pos ⟨hp,hq⟩]
    ·rw [ind_neg hp,ind_neg fun h=>hp h.1]
   rw [h1 (∃z,HsZ d P (ad S k) t z) _ hB]
   rcases Int.lt_or_gt_of_ne hu0 with q | q
   ·-- all lead below
    have hP:∀v,rcZ d P S t v→0≤Ez d P k v→liZ d P S k v:=fun v hv h0=>by
     by_cases e:Ez d P k v=0
     ·exact hB v hv e
     ·exact absurd (two_ways ht hv hu (by omega) q hB) hul
    have hM:¬∀v,rcZ d P S t v→Ez d P k v≤0→liZ d P S k v:=fun h=>hul (h u hu (by omega))
    rw [h1 (∃z,HsZ d P S (t ++ [43]) z) _ hP,ind_neg (p:=(∃z,HsZ d P S (t ++ [45]) z)∧_) fun h=>hM h.2,Int.add_zero]
    by_cases hz:∃z,HsZ d P S t z
    ·have hm:∃z,HsZ d P S (t ++ [45]) z:=by
      obtain ⟨z,hz⟩:=hz
      refine ⟨_,hsZ_snoc.2 ⟨hz.go hu (N:=(Ez d P k z).natAbs+1) (by omega),.inr (.inl ⟨rfl,?_⟩)⟩⟩
      rw [htl,Ez_lc]
      have:((Ez d P k z).natAbs+1:Int)*Ez d P k u≤((Ez d P k z).natAbs+1:Int)*(-1):=Int.mul_le_mul_of_nonneg_left (by omega) (by omega)
      omega
     rw [ind_pos hm,ind_pos hz] at hsp
     omega
    ·rw [ind_neg hz] at hsp
     have h2:¬∃z,HsZ d P S (t ++ [45]) z:=fun ⟨z,h⟩=>hz ⟨z,(hsZ_snoc.1 h).1⟩
     rw [ind_neg h2] at hsp
     omega
   ·have hM:∀v,rcZ d P S t v→Ez d P k v≤0→liZ d P S k v:=fun v hv h0=>by
     by_cases e:Ez d P k v=0
     ·exact hB v hv e
     ·exact two_ways ht hu hv q (by omega) hB
    have hP:¬∀v,rcZ d P S t v→0≤Ez d P k v→liZ d P S k v:=fun h=>hul (h u hu (by omega))
    rw [h1 (∃z,HsZ d P S (t ++ [45]) z) _ hM,ind_neg (p:=(∃z,HsZ d P S (t ++ [43]) z)∧_) fun h=>hP h.2,Int.zero_add]
    by_cases hz:∃z,HsZ d P S t z
    ·have hm:∃z,HsZ d P S (t ++ [43]) z:=by
      obtain ⟨z,hz⟩:=hz
      refine ⟨_,hsZ_snoc.2 ⟨hz.go hu (N:=(Ez d P k z).natAbs+1) (by omega),.inl ⟨rfl,?_⟩⟩⟩
      rw [htl,Ez_lc]
      have:((Ez d P k z).natAbs+1:Int)*1≤((Ez d P k z).natAbs+1:Int)*Ez d P k u:=Int.mul_le_mul_of_nonneg_left (by omega) (by omega)
      omega
     rw [ind_pos hm,ind_pos hz] at hsp
     omega
    ·rw [ind_neg hz] at hsp
     have h2:¬∃z,HsZ d P S (t ++ [43]) z:=fun ⟨z,h⟩=>hz ⟨z,(hsZ_snoc.1 h).1⟩
     rw [ind_neg h2] at hsp
     omega
  ·have hP:¬∀v,rcZ d P S t v→0≤Ez d P k v→liZ d P S k v:=fun h=>hB fun v hv e=>h v hv (by omega)
   have hM:¬∀v,rcZ d P S t v→Ez d P k v≤0→liZ d P S k v:=fun h=>hB fun v hv e=>h v hv (by omega)
   rw [ind_neg fun h=>hP h.2,ind_neg fun h=>hM h.2,ind_neg fun h=>hB h.2]
   rfl
theorem bdN_step {d:Nat} {P:List (List Int)} {S k:Nat} (hk:k < P.length) (hn:thr d P S k=false) (hkl:∀v,liZ d P S k v→Ez d P k v=0):bdN d P S (k+1)=bdN d P S k+bdN d P (ad S k) k:=by
 unfold bdN
 rw [←list_sum_add]
 show (((alT k).flatMap fun t=>[t ++ [43],t ++ [45]]).map _).sum=_
 rw [sum_flat2 _ fun t=>(t ++ [43],t ++ [45])]
 congr 1
 exact List.map_congr_left fun t ht=>bd_one hk hn hkl ht
theorem bdN_thr {d:Nat} {P:List (List Int)} {S k:Nat} (hn:thr d P S k=true):bdN d P S (k+1)=0:=by
 refine list_zero fun t ht=>ind_neg fun ⟨⟨z,hz⟩,_⟩=>?_
 simp only [alT,List.mem_flatMap] at ht
 obtain ⟨u,hu,h⟩:=ht
 have hul:=(alT_len hu).1
 have key:∀c:UInt8,c≠48→¬HsZ d P S (u ++ [c]) z:=fun c hc h=>by
  obtain ⟨h1,h2⟩:=hsZ_snoc.1 h
  have e:Ez d P u.length z=0:=by rw [hul]; exact thr_iff.1 hn z h1.zr
  rw [e] at h2
  rcases h2 with ⟨_,q⟩ | ⟨_,q⟩ | ⟨q,_⟩
  ·omega
  ·omega
  ·exact hc q
 simp only [List.mem_cons,List.not_mem_nil,or_false] at h
 rcases h with rfl | rfl
 ·exact key 43 (by decide) hz
 ·exact key 45 (by decide) hz
theorem bdN_cross {d:Nat} {P:List (List Int)} {S k:Nat} (hk:k < P.length) {l:Nat→Int} (hl:liZ d P S k l) (hln:Ez d P k l≠0):bdN d P S (k+1)=0∧bdN d P S k=bdN d P (ad S k) k:=by
 obtain ⟨m,hm,hmp⟩:∃m,liZ d P S k m∧0 < Ez d P k m:=by
  rcases Int.lt_or_gt_of_ne hln with q | q
  ·exact ⟨_,hl.lc hl (-1) 0,by rw [ngz]; omega⟩
  ·exact ⟨l,hl,q⟩
 constructor
 ·refine list_zero fun t ht=>ind_neg fun ⟨_,hb⟩=>?_
  simp only [alT,List.mem_flatMap] at ht
  obtain ⟨u,hu,h⟩:=ht
  have hul:=(alT_len hu).1
  simp only [List.mem_cons,List.not_mem_nil,or_false] at h
  rcases h with rfl | rfl
  ·have:=hb m (rcZ_snoc.2 ⟨liZ.rc (by rw [hul]; exact hm),by rw [hul,sgc43]; omega⟩)
   rw [List.length_append,List.length_singleton,hul,liZ_succ] at this
   omega
  ·have:=hb _ (rcZ_snoc.2 ⟨liZ.rc (by rw [hul]; exact hm.lc hm (-1) 0),by rw [hul,sgc45,ngz]; omega⟩)
   rw [List.length_append,List.length_singleton,hul,liZ_succ,ngz] at this
   omega
 ·unfold bdN
  congr 1
  refine List.map_congr_left fun t ht=>?_
  have htl:=(alT_len ht).1
  have key:((∃z,HsZ d P S t z)∧rbZ d P S t)↔((∃z,HsZ d P (ad S k) t z)∧rbZ d P (ad S k) t):=by
   refine and_congr ⟨fun ⟨z,hz⟩=>?_,fun ⟨z,hz⟩=>⟨z,((hsZ_ad hk).1 hz).1⟩⟩ ⟨fun h v hv=>?_,fun h u hu=>?_⟩
   ·refine ⟨fun q=>Ez d P k m*z q+(- Ez d P k z)*m q,(hsZ_ad hk).2 ⟨⟨?_,zr_lc hz.zr hm.2.1 _ _,fun i hi=>?_⟩,by rw [Ez_lc]; grind⟩⟩
    ·show Ez d P k m*z d+(- Ez d P k z)*m d < 0
     rw [hm.1]
     have:=Int.mul_neg_of_pos_of_neg hmp hz.neg
     omega
    ·rw [Ez_lc,hm.2.2 i (by omega)]
     have:=(hz.sg i hi).add (sgC_zero _) hmp (Int.le_refl 0)
     simpa using this
   ·obtain ⟨h1,h2⟩:=(rcZ_ad hk).1 hv
    exact (liZ_ad hk _).2 ⟨h v h1,h2⟩
   ·have h3:=h (fun q=>Ez d P k m*u q+(- Ez d P k u)*m q) ((rcZ_ad hk).2 ⟨⟨?_,zr_lc hu.2.1 hm.2.1 _ _,fun i hi=>?_⟩,by rw [Ez_lc]; grind⟩)
    ·obtain ⟨h4,_⟩:=(liZ_ad hk _).1 h3
     refine ⟨hu.1,hu.2.1,fun i hi=>?_⟩
     have e:=h4.2.2 i hi
     rw [Ez_lc,hm.2.2 i (by omega),Int.mul_zero,Int.add_zero] at e
     rcases Int.mul_eq_zero.1 e with q | q
     ·omega
     ·exact q
    ·show Ez d P k m*u d+(- Ez d P k u)*m d=0
     rw [hm.1,hu.1]; simp
    ·rw [Ez_lc,hm.2.2 i (by omega)]
     have:=(hu.2.2 i hi).lc (sgC_zero _) (show 0≤Ez d P k m by omega) (Int.le_refl 0)
     simpa using this
  by_cases h:(∃z,HsZ d P S t z)∧rbZ d P S t
  ·rw [ind_pos h,ind_pos (key.1 h)]
  ·rw [ind_neg h,ind_neg fun h2=>h (key.2 h2)]
end Go.Proofs.YtbdacimjebaihaaGreat
namespace Go.Proofs.YtbdacimjebaihaaGreat
open Lin
def eR (d:Nat):List Int:=(List.range (d+1)).map fun j=>if j=d then 1 else 0
theorem dot_eR (d:Nat) (v:Nat→Int):dot (d+1) (V (eR d)) v=v d:=by
 unfold dot
 rw [sumN_one (k:=d) (by omega) (fun a ha hne=>by simp [V,eR,ha,hne])]
 simp [V,eR]
def Rx (d:Nat) (P:List (List Int)) (S k:Nat):Nat:=rk (d+1) ((eR d :: plS P S) ++ P.take k)
theorem rx_zero {d:Nat} {P:List (List Int)} {S k:Nat} (hk:k≤P.length) {v:Nat→Int} : (∀r∈(eR d :: plS P S) ++ P.take k,dot (d+1) (V r) v=0)↔liZ d P S k v:=by
 constructor
 ·intro h
  refine ⟨?_,zr_iff.2 fun r hr=>h r (by simp [hr]),fun i hi=>h _ (List.mem_append_right _ ?_)⟩
  ·have:=h (eR d) (by simp)
   rwa [dot_eR] at this
  ·refine List.mem_iff_getElem.2 ⟨i,by rw [List.length_take]; omega,?_⟩
   simp [show i < P.length by omega]
 ·rintro ⟨h0,h1,h2⟩ r hr
  rcases List.mem_append.1 hr with hr | hr
  ·rcases List.mem_cons.1 hr with rfl | hr
   ·rw [dot_eR]; exact h0
   ·exact zr_iff.1 h1 r hr
  ·obtain ⟨i,hi,e⟩:=List.getElem_of_mem hr
   rw [List.length_take] at hi
   have:=h2 i (by omega)
   unfold Ez at this
   rw [show P.getD i []=r by rw [←e]; simp [show i < P.length by omega]] at this
   exact this
theorem rx_same {d:Nat} {P:List (List Int)} {S S' k k':Nat} (hk:k≤P.length) (hk':k'≤P.length) (h:∀v,liZ d P S k v↔liZ d P S' k' v):Rx d P S k=Rx d P S' k':=
 rk_eq fun v=>by rw [rx_zero hk',rx_zero hk]; exact (h v).symm
theorem rx_ad {d:Nat} {P:List (List Int)} {S k:Nat} (hk:k < P.length):Rx d P (ad S k) k=Rx d P S (k+1):=rx_same (by omega) (by omega) fun v=>by rw [liZ_ad hk,liZ_succ]
theorem rx_kill {d:Nat} {P:List (List Int)} {S k:Nat} (hk:k < P.length) (h:∀v,liZ d P S k v→Ez d P k v=0):Rx d P S (k+1)=Rx d P S k:=rx_same (by omega) (by omega) fun v=>by
 rw [liZ_succ]
 exact ⟨fun h=>h.1,fun hv=>⟨hv,h v hv⟩⟩
theorem rx_cross {d:Nat} {P:List (List Int)} {S k:Nat} (hk:k < P.length) {l:Nat→Int} (hl:liZ d P S k l) (hln:Ez d P k l≠0):Rx d P S (k+1)=Rx d P S k+1:=by
 have e:P.take (k+1)=P.take k ++ [P.getD k []]:=by rw [List.take_succ_eq_append_getElem hk]; simp [hk]
 unfold Rx
 rw [e,←List.append_assoc]
 have h1:=rk_add (d+1) ((eR d :: plS P S) ++ P.take k) [P.getD k []]
 have h2:=rk_lt (c:=d+1) (A:=(eR d :: plS P S) ++ P.take k) (B:=((eR d :: plS P S) ++ P.take k) ++ [P.getD k []]) (fun x hx=>List.mem_append_left _ hx) ((rx_zero (by omega)).2 hl) (b:=P.getD k []) (by simp) hln
 simp only [List.length_cons,List.length_nil] at h1
 omega
theorem rx_base {d:Nat} {P:List (List Int)} {S:Nat} (hc:cen d P S=true):Rx d P S 0=rS d P S+1:=by
 obtain ⟨v,h1,h2⟩:=cen_iff.1 hc
 have e:Rx d P S 0=rk (d+1) (plS P S ++ [eR d]):=rk_eq fun u=>by simp [or_comm]
 have h3:=rk_add (d+1) (plS P S) [eR d]
 have h4:=rk_lt (c:=d+1) (A:=plS P S) (B:=plS P S ++ [eR d]) (fun x hx=>List.mem_append_left _ hx) (zr_iff.1 h1) (b:=eR d) (by simp) (by rw [dot_eR]; exact h2)
 unfold rS
 simp only [List.length_cons,List.length_nil] at h3
 omega
theorem rx_mono {d:Nat} {P:List (List Int)} {S k:Nat} (hk:k≤P.length):Rx d P S 0≤Rx d P S k:=rk_le fun v hv=>(rx_zero (Nat.zero_le _)).2 (by
 obtain ⟨h0,h1,_⟩:=(rx_zero hk).1 hv
 exact ⟨h0,h1,fun i hi=>absurd hi (by omega)⟩)
theorem bd_none {d:Nat} {P:List (List Int)} {S:Nat} (h:cen d P S=false) (k:Nat):bdN d P S k=0:=
 list_zero fun t _=>ind_neg fun ⟨⟨z,hz⟩,_⟩=>by
  have:cen d P S=true:=cen_iff.2 ⟨z,hz.zr,by have:=hz.neg; omega⟩
  rw [h] at this; cases this
theorem bounded {d:Nat} {P:List (List Int)} : ∀(k S:Nat),k≤P.length→k≤6→bdN d P S k=mi (Rx d P S k-1-rS d P S)*Xk d P 1 S k
 | 0,S,_,_=>by
  cases hc:cen d P S
  ·rw [bd_none hc,Xk_none hc,Int.mul_zero]
  ·have h1:bdN d P S 0=1:=by
    obtain ⟨v,h1,h2⟩:=cen_iff.1 hc
    have:∃z,HsZ d P S [] z:=by
     rcases Int.lt_or_gt_of_ne h2 with q | q
     ·exact ⟨v,q,h1,fun i hi=>absurd hi (by simp)⟩
     ·refine ⟨fun k=>(-1)*v k+0*v k,?_,zr_lc h1 h1 _ _,fun i hi=>absurd hi (by simp)⟩
      show (-1)*v d+0*v d < 0
      omega
    have hb:rbZ d P S []:=fun v hv=>⟨hv.1,hv.2.1,fun i hi=>absurd hi (by simp)⟩
    unfold bdN
    simp only [alT,List.map_cons,List.map_nil,List.sum_cons,List.sum_nil]
    rw [ind_pos ⟨this,hb⟩]; rfl
   have h2:Xk d P 1 S 0=1:=by
    unfold Xk
    show sumN 1 _=_
    simp only [sumN,Int.zero_add,Nat.or_zero]
    rw [if_pos hc]
    have:sg 0=1:=by decide
    rw [this,Int.one_mul,Int.one_pow]
   rw [h1,h2,rx_base hc,show rS d P S+1-1-rS d P S=0 by omega]
   rfl
 | k+1,S,hk,h6=>by
  cases hc:cen d P S
  ·rw [bd_none hc,Xk_none hc,Int.mul_zero]
  ·rw [Xk_step (by omega)]
   cases ht:thr d P S k
   ·by_cases hkl:∀v,liZ d P S k v→Ez d P k v=0
    ·rw [bdN_step (by omega) ht hkl,bounded k S (by omega) (by omega),bounded k (ad S k) (by omega) (by omega),rx_kill (by omega) hkl]
     cases hc2:cen d P (ad S k)
     ·rw [Xk_none hc2]; simp
     ·have h1:=rS_ad (by omega) ht
      have h3:Rx d P (ad S k) k=Rx d P S k:=by rw [rx_ad (by omega),rx_kill (by omega) hkl]
      have h4:=rx_base hc2
      have h5:=rx_mono (d:=d) (P:=P) (S:=ad S k) (k:=k) (by omega)
      rw [h3] at h5 ⊢
      have h6:Rx d P S k-1-rS d P S=(Rx d P S k-1-rS d P (ad S k))+1:=by omega
      rw [h6,mi_succ]
      grind
    ·obtain ⟨l,hl,hln⟩:∃l,liZ d P S k l∧Ez d P k l≠0:=Classical.byContradiction fun h=>hkl fun v hv=>Classical.byContradiction fun h2=>h ⟨v,hv,h2⟩
     obtain ⟨h1,h2⟩:=bdN_cross (by omega) hl hln
     rw [h1]
     have e1:=bounded (d:=d) (P:=P) k S (by omega) (by omega)
     have e2:=bounded (d:=d) (P:=P) k (ad S k) (by omega) (by omega)
     have h3:Rx d P (ad S k) k=Rx d P S k+1:=by rw [rx_ad (by omega),rx_cross (by omega) hl hln]
     have h4:=rS_ad (by omega) ht
     have h5:=rx_base hc
     have h6:=rx_mono (d:=d) (P:=P) (S:=S) (k:=k) (by omega)
     have h7:Rx d P (ad S k) k-1-rS d P (ad S k)=Rx d P S k-1-rS d P S:=by omega
     rw [h7] at e2
     have h8:=mi_sq (Rx d P S k-1-rS d P S)
     rw [h2,e2] at e1
     have h9:Xk d P 1 S k=Xk d P 1 (ad S k) k:=by
      have:mi (Rx d P S k-1-rS d P S)*(mi (Rx d P S k-1-rS d P S)*Xk d P 1 (ad S k) k)=mi (Rx d P S k-1-rS d P S)*(mi (Rx d P S k-1-rS d P S)*Xk d P 1 S k):=by rw [e1]
      rw [←Int.mul_assoc,←Int.mul_assoc,h8,Int.one_mul,Int.one_mul] at this
      exact this.symm
     rw [h9]; simp
   ·rw [bdN_thr ht,Xk_thr (by omega) ht]
    simp
theorem Xk_poly {d:Nat} {P:List (List Int)} (x:Int):Xk d P x 0 P.length=sumN (d+1) fun j=>whC d P j*x ^ j:=by
 unfold Xk
 have e3:∀s,s < 2 ^ P.length→(if cen d P (0 ||| s)=true then sg s*x ^ (d-rS d P (0 ||| s)) else 0)=sumN (d+1) fun j=>(if cen d P s=true then sg s*(if d-rS d P s=j then 1 else 0) else 0)*x ^ j:=fun s _=>by
  rw [Nat.zero_or]
  by_cases hc:cen d P s=true
  ·simp only [if_pos hc]
   rw [sumN_one (k:=d-rS d P s) (by omega) (fun j _ hne=>by rw [if_neg (Ne.symm hne)]; simp)]
   simp
  ·simp only [if_neg hc,Int.zero_mul]
   rw [sumN_zero fun _ _=>rfl]
 rw [sumN_congr e3,sumN_swap]
 refine sumN_congr fun j _=>?_
 unfold whC
 rw [←sumN_mul_right]
def trz (d:Nat) (z:Nat→Int):Nat→Int:=fun q=>if q=d then-z d else z q
theorem hv_trz (d:Nat) (P:List (List Int)) (i:Nat) (z:Nat→Int):Ez d P i (trz d z)=hv d (P.getD i []) z:=by
 unfold Ez hv
 rw [dot_snoc]
 have e:dot d (V (P.getD i [])) (trz d z)=dot d (V (P.getD i [])) z:=dot_congr (fun _ _=>rfl) fun q hq=>by simp [trz,show q≠d by omega]
 rw [e,show trz d z d=- z d by simp [trz]]
 grind
theorem trz_trz (d:Nat) (z:Nat→Int):trz d (trz d z)=z:=by
 funext q
 unfold trz
 by_cases h:q=d
 ·subst h; simp
 ·simp [h]
theorem has_hsZ {d:Nat} {P:List (List Int)} {t:List UInt8} : (∃z,HasS d P t z)↔∃z,HsZ d P 0 t z:=by
 constructor
 ·rintro ⟨z,h0,h⟩
  exact ⟨trz d z,by simp [trz]; exact h0,fun i _ hb=>by simp at hb,fun i hi=>by rw [hv_trz]; exact h i hi⟩
 ·rintro ⟨z,h⟩
  refine ⟨trz d z,by have:=h.neg; simp [trz]; omega,fun i hi=>?_⟩
  rw [←hv_trz,trz_trz]
  exact h.sg i hi
end Go.Proofs.YtbdacimjebaihaaGreat
