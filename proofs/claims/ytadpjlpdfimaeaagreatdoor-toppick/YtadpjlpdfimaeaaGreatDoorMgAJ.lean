import Derived.Test.YtadpjlpdfimaeaaGreatDoorMgAI
import Derived.Test.YtadpjlpdfimaeaaGreatDoorLinAll
import Derived.Test.YtadpjlpdfimaeaaGreatDoorMgAG
import Derived.Test.YtadpjlpdfimaeaaGreatDoorMgAA
import Derived.Maps.AppendAt
import Derived.Test.YtadpjlpdfimaeaaGreatDoorMgAB
import Derived.Test.YtadpjlpdfimaeaaGreatDoorMgAH
namespace Go.Proofs.YtadpjlpdfimaeaaGreatDoor
open Go.RowKit
attribute [local go_sem ↓] Go.wp_at_zero Go.wp_at_succ
def dotL (a x:List Int):Int:=Lin.sumN a.length fun i=>a.getD i 0*x.getD i 0
def Sm (a x:List Int):Prop:=a.length≤x.length∧a.length≤8∧(∀z∈a,z.natAbs≤1000000000000)∧∀z∈x,z.natAbs≤1000
theorem mul_bd {a x:Int} (ha:a.natAbs≤1000000000000) (hx:x.natAbs≤1000):(a*x).natAbs≤1000000000000000:=by
 rw [Int.natAbs_mul]
 exact Nat.le_trans (Nat.mul_le_mul ha hx) (by decide)
theorem sum_sm {a x:List Int} (h:Sm a x):∀k,k≤a.length→(Lin.sumN k fun i=>a.getD i 0*x.getD i 0).natAbs≤k*1000000000000000:=by
 intro k
 induction k with
 | zero=>intro _; simp [Lin.sumN]
 | succ k ih=>
  intro hk
  have h1:=ih (by omega)
  have h2:(a.getD k 0*x.getD k 0).natAbs≤1000000000000000:=mul_bd (h.2.2.1 _ (by simp [show k < a.length by omega])) (h.2.2.2 _ (by simp [show k < x.length by have:=h.1; omega]))
  simp only [Lin.sumN]
  omega
set_option maxRecDepth 100000 in
set_option maxHeartbeats 400000 in
theorem product_any (B:Nat) (a x:List Int) (u v:Value) (w:World) (hu:Sl B 3 w u (ints a)) (hv:Sl B 3 w v (ints x)) (hs:Sm a x) :
  Calls Tryz.prog 90 #[u,v] w fun e w'=>e=.returned (.int .i64 (dotL a x))∧∃n,w'=w.drewN n:=by
 obtain ⟨ao,cap,hvv,hlc,hcm⟩:=sl_open hu
 obtain ⟨bo,cbp,huu,hlb,hcb⟩:=sl_open hv
 subst hvv huu
 have HU:Hid (Sl B 3 w (.slice ao a.length cap) (ints a)):=hu
 have HV:Hid (Sl B 3 w (.slice bo x.length cbp) (ints x)):=hv
 have HS:Hid (Sm a x):=hs
 have hle:a.length≤x.length:=hs.1
 have hl8:a.length≤8:=hs.2.1
 clear hu hv hs
 go_enter Tryz.func90,Tryz.ntmps90
 go_wp2
 go_loopw [5,9] (fun s i wr=>∃k:Nat,k≤a.length∧i=.int .i64 k∧s=.int .i64 (Lin.sumN k fun i=>a.getD i 0*x.getD i 0)∧∃n,wr=w.drewN n) (fun _ i _=>a.length-(intOf i).toNat)
 case atStart=>exact ⟨0,Nat.zero_le _,rfl,rfl,0,rfl⟩
 case round=>
  obtain ⟨k,hk,rfl,rfl,n,rfl⟩:=hrel
  by_cases hlt:k < a.length
  ·have hlt2:k < x.length:=by omega
   obtain ⟨b,o,cp,hs,hc1,hcc⟩:=sl_cell HU.out hlt
   simp only [Value.slice.injEq] at hs
   obtain ⟨rfl,_,rfl⟩:=hs
   obtain ⟨b2,o2,cp2,hs2,hc2,hcc2⟩:=sl_cell HV.out hlt2
   simp only [Value.slice.injEq] at hs2
   obtain ⟨rfl,_,rfl⟩:=hs2
   have h1:=sum_sm HS.out k hk
   have h2:=sum_sm HS.out (k+1) (by omega)
   have h3:(a.getD k 0*x.getD k 0).natAbs≤1000000000000000:=mul_bd (HS.out.2.2.1 _ (by simp [hlt])) (HS.out.2.2.2 _ (by simp [hlt2]))
   have HSU:Hid ((Lin.sumN (k+1) fun i=>a.getD i 0*x.getD i 0)=(Lin.sumN k fun i=>a.getD i 0*x.getD i 0)+a.getD k 0*x.getD k 0):=rfl
   rw [HSU.out] at h2
   generalize (Lin.sumN k fun i=>a.getD i 0*x.getD i 0)=S at *
   generalize a.getD k 0=p at *
   generalize x.getD k 0=q at *
   have e2:wrap64 (S+wrap64 (p*q))=S+p*q:=by
    rw [IntWalk.wrap64_in (p*q) ⟨by omega,by omega⟩,IntWalk.wrap64_in _ ⟨by omega,by omega⟩]
   clear h1 h2 h3
   go_wp2
   go_quiet (fail)
   go_wp2
   go_roundw
   case rel=>exact ⟨k+1,by omega,by go_num,by rw [HSU.out,e2],_,rfl⟩
   case measure=>simp [intOf]; omega
  ·have hke:k=a.length:=by omega
   subst hke
   go_wp2
   go_ret
   exact ⟨rfl,n,rfl⟩
end Go.Proofs.YtadpjlpdfimaeaaGreatDoor

namespace Go.Proofs.YtadpjlpdfimaeaaGreatDoor
open Go.RowKit
attribute [local go_sem ↓] Go.wp_at_zero Go.wp_at_succ
def rowT (t P:List (List Int)):Option (List Int):=
 if normB t.length (diffL t)=true then
  if (P.any fun x=>decide (dotL (normL t.length (diffL t)) (t.getD 0 []) < dotL (normL t.length (diffL t)) x))=false then some (normL t.length (diffL t) ++ [dotL (normL t.length (diffL t)) (t.getD 0 [])])
  else if (P.any fun x=>decide (dotL (normL t.length (diffL t)) x < dotL (normL t.length (diffL t)) (t.getD 0 [])))=false then some ((normL t.length (diffL t) ++ [dotL (normL t.length (diffL t)) (t.getD 0 [])]).map fun z=>-z)
  else none
 else none
theorem getD_mem {l:List Int} {i:Nat} (h:i < l.length):l.getD i 0∈l:=by simp [h]
theorem diff_mx {d:Nat} {t:List (List Int)} (h:Box d 30 t) (h1:1≤d) (h5:d≤5):Mx d 60 (diffL t):=by
 refine ⟨fun r hr=>?_,fun r hr z hz=>?_,h5,h1,by decide,Nat.le_trans (fb_mono (by decide) h5) (by decide)⟩
 ·simp only [diffL,List.mem_map] at hr
  obtain ⟨x,hx,rfl⟩:=hr
  rw [subL_length]; exact (h x (List.mem_of_mem_drop hx)).1
 ·simp only [diffL,List.mem_map] at hr
  obtain ⟨x,hx,rfl⟩:=hr
  simp only [subL,List.mem_map,List.mem_range] at hz
  obtain ⟨i,hi,rfl⟩:=hz
  have h1:=(h x (List.mem_of_mem_drop hx)).2 (x.getD i 0) (by simp [hi])
  have h2 : -(30:Int)≤(t.getD 0 []).getD i 0∧(t.getD 0 []).getD i 0≤30:=by
   by_cases ht:0 < t.length
   ·have h3:=h (t.getD 0 []) (by simp [ht])
    by_cases hi2:i < (t.getD 0 []).length
    ·exact h3.2 _ (getD_mem hi2)
    ·rw [show (t.getD 0 []).getD i 0=0 by simp only [List.getD_eq_getElem?_getD]; rw [List.getElem?_eq_none (by simpa using hi2)]; rfl]; omega
   ·have:t=[]:=List.eq_nil_of_length_eq_zero (by omega)
    subst this; simp
  omega
theorem muL_len (c:Nat) (rows:List (List Int)):(muL c rows).length=c:=by simp [muL]
theorem norm_len {c:Nat} {m:List (List Int)} (h:normB c m=true):(normL c m).length=c:=by
 unfold normB at h
 unfold normL
 rw [if_pos (of_decide_eq_true h),upr_len,low_len,muL_len]
theorem upr_bd {l:List Int} {b:Nat} (h:∀z∈l,z.natAbs≤b):∀z∈Lin.upr l,z.natAbs≤b:=by
 intro z hz
 unfold Lin.upr at hz
 split at hz
 ·simp only [List.mem_map] at hz
  obtain ⟨y,hy,rfl⟩:=hz
  rw [Int.natAbs_neg]; exact h y hy
 ·exact h z hz
theorem mu_small {c:Nat} {m:List (List Int)} (hx:Mx c 60 m) (hl:(pickL c m).length+1=c):∀z∈muL c (pickL c m),z.natAbs≤1000000000000:=by
 intro z hz
 simp only [muL,List.mem_map,List.mem_range] at hz
 obtain ⟨k,hk,rfl⟩:=hz
 unfold Lin.mu
 rw [Int.natAbs_mul]
 have h2:(Lin.ngo k).natAbs=1:=by rw [ngo_mod]; by_cases e:k % 2=1 <;> simp [e]
 rw [h2,Nat.one_mul,fm_length]
 have h5:Lin.fb 60 5=93312000000:=by decide
 have m2:Lin.fb 60 (pickL c m).length≤Lin.fb 60 5:=fb_mono (by decide) (by have:=hx.c5; omega)
 have hb:=Lin.od_bd (n:=(pickL c m).length) (B:=60) (Lin.cols (fm (pickL c m)) (Lin.skp k)) (fun _=>false) (fun r hr j hj=>by
  simp only [Lin.cols,fm,List.mem_map] at hr
  obtain ⟨_,⟨l,hl',rfl⟩,rfl⟩:=hr
  by_cases hi:Lin.skp k j < l.length
  ·exact hx.bd l (pickL_mem hl') _ (by simp [hi])
  ·simp only [List.getD_eq_getElem?_getD]; rw [List.getElem?_eq_none (by omega)]; simp) (by rw [Lin.cu_none]; simp [Lin.cols,fm])
 have hl2:(Lin.cols (fm (pickL c m)) (Lin.skp k)).length=(pickL c m).length:=by simp [Lin.cols,fm]
 rw [hl2] at hb
 omega
theorem norm_bd {c:Nat} {m:List (List Int)} (hx:Mx c 60 m):∀z∈normL c m,z.natAbs≤1000000000000:=by
 intro z hz
 unfold normL at hz
 split at hz
 ·rename_i hl
  exact upr_bd (low_bd (mu_small hx hl)) z hz
 ·simp at hz
theorem box_small {d:Nat} {P:List (List Int)} (h:Box d 30 P) {x:List Int} (hx:x∈P):∀z∈x,z.natAbs≤1000:=fun z hz=>by
 have:=(h x hx).2 z hz; omega
def Bx (W3 W4:World) (bv:Int):Prop:=W4.cell? ⟨W3.heap.size,0,none⟩=some (.int .i64 bv)∧Below W3.heap.size W3 W4∧W4.heap.size=W3.heap.size+1
end Go.Proofs.YtadpjlpdfimaeaaGreatDoor

namespace Go.Proofs.YtadpjlpdfimaeaaGreatDoor
open Lin
def V (l:List Int):Nat→Int:=fun j=>l.getD j 0
theorem V_neg (l:List Int) (i:Nat):V (l.map fun z=>-z) i=- V l i:=by
 simp only [V,List.getD_eq_getElem?_getD,List.getElem?_map]
 cases l[i]? <;> simp
theorem mem_fm {m:List (List Int)} {r:Nat→Int} : r∈fm m↔∃l∈m,r=V l:=by
 simp only [fm,List.mem_map]
 constructor
 ·rintro ⟨l,hl,rfl⟩; exact ⟨l,hl,rfl⟩
 ·rintro ⟨l,hl,rfl⟩; exact ⟨l,hl,rfl⟩
theorem norm_par {d:Nat} {m:List (List Int)} (hl:(pickL d m).length+1=d):∃k:Int,k≠0∧∀i,i < d→mu (fm (pickL d m)) i=k*V (normL d m) i:=by
 have hg:=pick_greedy d m
 have hl':(fm (pickL d m)).length+1=d:=by rw [fm_length]; exact hl
 obtain ⟨⟨p,hp,hne⟩,_,_⟩:=greedy_one hg hl'
 have hn:normL d m=upr (low (muL d (pickL d m))):=if_pos hl
 rw [hn]
 have hat:∀i,i < d→V (muL d (pickL d m)) i=mu (fm (pickL d m)) i:=fun i hi=>by simp [V,muL,hi]
 generalize muL d (pickL d m)=l at *
 have hll:∀i,i < d→V l i∈l∨V l i=0:=fun i _=>by
  by_cases h:i < l.length
  ·exact Or.inl (getD_mem h)
  ·right; simp only [V,List.getD_eq_getElem?_getD]; rw [List.getElem?_eq_none (by omega)]; rfl
 have hdv:∀i,i < d→((gc l:Nat):Int) ∣ V l i:=fun i hi=>by
  rcases hll i hi with h | h
  ·exact gc_dvd h
  ·rw [h]; exact Int.dvd_zero _
 have hg0:((gc l:Nat):Int)≠0:=by
  intro h0
  have h1:=hdv p hp
  rw [h0] at h1
  have h2:=Int.zero_dvd.1 h1
  rw [hat p hp] at h2
  exact hne h2
 have hlow:∀i,i < d→V l i=((gc l:Nat):Int)*V (low l) i:=fun i hi=>by
  have e:V (low l) i=V l i / ((gc l:Nat):Int):=by
   simp only [V,low,List.getD_eq_getElem?_getD,List.getElem?_map]
   cases l[i]? <;> simp
  rw [e,Int.mul_ediv_cancel' (hdv i hi)]
 unfold upr
 split
 ·refine ⟨-((gc l:Nat):Int),by omega,fun i hi=>?_⟩
  rw [V_neg,←hat i hi,hlow i hi]; grind
 ·exact ⟨((gc l:Nat):Int),hg0,fun i hi=>by rw [←hat i hi,hlow i hi]⟩
theorem norm_spec {d:Nat} {m:List (List Int)} (hl:(pickL d m).length+1=d) :
  (∃i,i < d∧V (normL d m) i≠0)∧(∀r∈m,dot d (V r) (V (normL d m))=0)∧∀u:Nat→Int,(∀r∈m,dot d (V r) u=0)→Par d u (V (normL d m)):=by
 have hl':(fm (pickL d m)).length+1=d:=by rw [fm_length]; exact hl
 obtain ⟨⟨p,hp,hne⟩,h1,h2⟩:=greedy_one (pick_greedy d m) hl'
 obtain ⟨k,hk,hmu⟩:=norm_par hl
 refine ⟨⟨p,hp,fun e=>hne (by rw [hmu p hp,e,Int.mul_zero])⟩,fun r hr=>?_,fun u hu i j hi hj=>?_⟩
 ·have h:=h1 (V r) (mem_fm.2 ⟨r,hr,rfl⟩)
  have e:dot d (V r) (mu (fm (pickL d m)))=k*dot d (V r) (V (normL d m)):=by
   unfold dot
   rw [←sumN_mul]
   exact sumN_congr fun i hi=>by rw [hmu i hi]; grind
  rw [e] at h
  exact (Int.mul_eq_zero.1 h).resolve_left hk
 ·have h:=h2 u (fun r hr=>by
   obtain ⟨l,hl,rfl⟩:=mem_fm.1 hr
   exact hu l hl) i j hi hj
  rw [hmu i hi,hmu j hj] at h
  have:k*(u i*V (normL d m) j)=k*(u j*V (normL d m) i):=by grind
  exact Int.eq_of_mul_eq_mul_left hk this
end Go.Proofs.YtadpjlpdfimaeaaGreatDoor

namespace Go.Proofs.YtadpjlpdfimaeaaGreatDoor.Pick
def zs (lo:Int):Nat→(Int→Int)→Int
 | 0,_=>0
 | n+1,f=>zs lo n f+f (lo+n)
theorem zs_congr {lo:Int} {f g:Int→Int} : ∀{n:Nat},(∀i:Nat,i < n→f (lo+i)=g (lo+i))→zs lo n f=zs lo n g
 | 0,_=>rfl
 | n+1,h=>by
  have:=zs_congr (n:=n) fun i hi=>h i (by omega)
  simp only [zs,this,h n (by omega)]
theorem zs_add (lo:Int) (f g:Int→Int):∀n,zs lo n (fun x=>f x+g x)=zs lo n f+zs lo n g
 | 0=>rfl
 | n+1=>by simp only [zs,zs_add lo f g n]; omega
theorem zs_sub (lo:Int) (f g:Int→Int):∀n,zs lo n (fun x=>f x-g x)=zs lo n f-zs lo n g
 | 0=>rfl
 | n+1=>by simp only [zs,zs_sub lo f g n]; omega
theorem zs_const (lo c:Int):∀n:Nat,zs lo n (fun _=>c)=n*c
 | 0=>by simp [zs]
 | n+1=>by simp only [zs,zs_const lo c n]; grind
theorem zs_split (lo:Int) (f:Int→Int) (m:Nat):∀n,zs lo (m+n) f=zs lo m f+zs (lo+m) n f
 | 0=>by simp [zs]
 | n+1=>by
  rw [←Nat.add_assoc]
  simp only [zs,zs_split lo f m n]
  rw [show lo+((m+n:Nat):Int)=lo+m+n by omega]
  omega
theorem zs_first (lo:Int) (f:Int→Int) (n:Nat):zs lo (n+1) f=f lo+zs (lo+1) n f:=by
 rw [Nat.add_comm n 1,zs_split lo f 1 n]
 simp [zs]
theorem zs_shift (lo:Int) (f:Int→Int):∀n,zs lo n (fun x=>f (x+1))=zs (lo+1) n f
 | 0=>rfl
 | n+1=>by
  simp only [zs,zs_shift lo f n]
  rw [show lo+(n:Int)+1=lo+1+n by omega]
theorem zs_rev:∀(n:Nat) (lo:Int) (f:Int→Int),zs lo n (fun x=>f (2*lo+n-1-x))=zs lo n f
 | 0,_,_=>rfl
 | n+1,lo,f=>by
  have h:=zs_rev n lo (fun x=>f (x+1))
  rw [zs_shift] at h
  rw [zs_first lo f n,←h]
  simp only [zs]
  rw [show 2*lo+((n+1:Nat):Int)-1-(lo+n)=lo by omega,Int.add_comm]
  refine congrArg (f lo + ·) (zs_congr fun i _=>?_)
  exact congrArg f (by omega)
theorem zs_zero {lo:Int} {f:Int→Int} {n:Nat} (h:∀i:Nat,i < n→f (lo+i)=0):zs lo n f=0:=by
 rw [zs_congr (g:=fun _=>0) h,zs_const]; simp
theorem zs_part {lo p q:Int} {n:Nat} {f:Int→Int} (h1:lo≤p) (h2:p≤q) (h3:q≤lo+n):zs lo n (fun x=>if p≤x∧x < q then f x else 0)=zs p (q-p).toNat f:=by
 obtain ⟨k,hk⟩:∃k:Nat,p=lo+k:=⟨(p-lo).toNat,by omega⟩
 obtain ⟨m,hm⟩:∃m:Nat,q=p+m:=⟨(q-p).toNat,by omega⟩
 obtain ⟨r,hr⟩:∃r:Nat,n=k+(m+r):=⟨n-k-m,by omega⟩
 subst hr
 rw [zs_split,zs_split,←hk,←hm]
 rw [zs_zero (lo:=lo) fun i hi=>by rw [if_neg (by omega)],zs_zero (lo:=q) fun i hi=>by rw [if_neg (by omega)]]
 rw [show (q-p).toNat=m by omega,zs_congr (g:=f) fun i hi=>by rw [if_pos (by omega)]]
 omega
theorem zs_ends {p:Int→Bool} {F T a:Int} : ∀n:Nat,(∀i:Nat,i < n→(p (a+i)=true↔F≤a+i∧a+i≤T))→zs a n (fun y=>if p y=true then 1 else 0)=max 0 (min T (a+n-1)-max F a+1)
 | 0,_=>by simp only [zs]; omega
 | n+1,h=>by
  have ih:=zs_ends n fun i hi=>h i (by omega)
  have hn:=h n (by omega)
  simp only [zs,ih]
  by_cases hp:p (a+n)=true
  ·rw [if_pos hp]
   have:=hn.1 hp
   omega
  ·rw [if_neg hp]
   have:¬(F≤a+n∧a+n≤T):=fun q=>hp (hn.2 q)
   omega
def ls {ρ:Type} (s:List ρ) (g:ρ→Int):Int:=(s.map g).sum
theorem ls_cons {ρ:Type} (r:ρ) (s:List ρ) (g:ρ→Int):ls (r :: s) g=g r+ls s g:=by simp [ls]
theorem ls_congr {ρ:Type} {f g:ρ→Int} : ∀{s:List ρ},(∀r∈s,f r=g r)→ls s f=ls s g
 | [],_=>rfl
 | r :: s,h=>by rw [ls_cons,ls_cons,h r (by simp),ls_congr fun r' hr=>h r' (by simp [hr])]
theorem ls_add {ρ:Type} (f g:ρ→Int):∀s:List ρ,ls s (fun r=>f r+g r)=ls s f+ls s g
 | []=>rfl
 | r :: s=>by rw [ls_cons,ls_cons,ls_cons,ls_add f g s]; omega
theorem ls_sub {ρ:Type} (f g:ρ→Int):∀s:List ρ,ls s (fun r=>f r-g r)=ls s f-ls s g
 | []=>rfl
 | r :: s=>by rw [ls_cons,ls_cons,ls_cons,ls_sub f g s]; omega
theorem ls_zero {ρ:Type} {f:ρ→Int} : ∀{s:List ρ},(∀r∈s,f r=0)→ls s f=0
 | [],_=>rfl
 | r :: s,h=>by rw [ls_cons,h r (by simp),ls_zero fun r' hr=>h r' (by simp [hr])]; rfl
theorem ls_one {ρ:Type} {f:ρ→Int} {r0:ρ} : ∀{s:List ρ},s.Nodup→r0∈s→(∀r∈s,r≠r0→f r=0)→ls s f=f r0
 | [],_,h,_=>by simp at h
 | r :: s,hn,h,hz=>by
  have hn':=List.nodup_cons.1 hn
  rw [ls_cons]
  rcases List.mem_cons.1 h with rfl | h
  ·rw [ls_zero fun r' hr=>hz r' (by simp [hr]) fun e=>hn'.1 (e ▸ hr)]
   omega
  ·rw [hz r (by simp) fun e=>hn'.1 (e ▸ h),ls_one hn'.2 h fun r' hr=>hz r' (by simp [hr])]
   omega
theorem ls_zs {ρ:Type} (lo:Int) (n:Nat) (g:ρ→Int→Int):∀s:List ρ,ls s (fun r=>zs lo n (g r))=zs lo n (fun x=>ls s fun r=>g r x)
 | []=>by
  rw [zs_zero fun _ _=>rfl]; rfl
 | r :: s=>by
  rw [ls_cons,ls_zs lo n g s,←zs_add]
  exact zs_congr fun i _=>(ls_cons r s fun r=>g r (lo+i)).symm
def hh (px py qx qy x:Int):Int:=2*py+(qy-py)*(x-px) / (qx-px)-(-((qy-py)*(x-px))) / (qx-px)
def fl (px py qx qy x:Int):Int:=py+(qy-py)*(x-px) / (qx-px)
def ce (px py qx qy x:Int):Int:=py-(-((qy-py)*(x-px))) / (qx-px)
theorem hh_eq (px py qx qy x:Int):hh px py qx qy x=fl px py qx qy x+ce px py qx qy x:=by unfold hh fl ce; omega
theorem ends_l (px py qx qy:Int):fl px py qx qy px=py∧ce px py qx qy px=py:=by
 unfold fl ce
 simp
theorem ends_r {px py qx qy:Int} (h:px < qx):fl px py qx qy qx=qy∧ce px py qx qy qx=qy:=by
 have hd:qx-px≠0:=by omega
 have h1 : -((qy-py)*(qx-px))=(-(qy-py))*(qx-px):=by grind
 unfold fl ce
 rw [h1,Int.mul_ediv_cancel _ hd,Int.mul_ediv_cancel _ hd]
 omega
theorem hh_sym {px py qx qy:Int} (h:px < qx) (x:Int):hh px py qx qy x+hh px py qx qy (px+qx-x)=2*(py+qy):=by
 have hd:qx-px≠0:=by omega
 unfold hh
 have h1:(qy-py)*(px+qx-x-px)=-((qy-py)*(x-px))+(qy-py)*(qx-px):=by grind
 have h2 : -(-((qy-py)*(x-px))+(qy-py)*(qx-px))=(qy-py)*(x-px)+(-(qy-py))*(qx-px):=by grind
 rw [h1,h2,Int.add_mul_ediv_right _ _ hd,Int.add_mul_ediv_right _ _ hd]
 omega
theorem under {px py qx qy:Int} (h:px < qx):zs px (qx-px).toNat (fun x=>hh px py qx qy x+hh px py qx qy (x+1))=2*((qx-px)*(py+qy)):=by
 obtain ⟨n,hn⟩:∃n:Nat,qx=px+n:=⟨(qx-px).toNat,by omega⟩
 have e:(qx-px).toNat=n:=by omega
 rw [e]
 have h1:=zs_rev n px (fun x=>hh px py qx qy x+hh px py qx qy (x+1))
 have h2:=zs_add px (fun x=>hh px py qx qy x+hh px py qx qy (x+1)) (fun x=>hh px py qx qy (2*px+n-1-x)+hh px py qx qy (2*px+n-1-x+1)) n
 rw [h1] at h2
 rw [zs_congr (g:=fun _=>4*(py+qy)) fun i hi=>by
  have a1:=hh_sym (py:=py) (qy:=qy) h (px+i)
  have a2:=hh_sym (py:=py) (qy:=qy) h (px+i+1)
  rw [show 2*px+n-1-(px+i)=px+qx-(px+i+1) by omega,show px+qx-(px+i+1)+1=px+qx-(px+i) by omega]
  omega,zs_const] at h2
 rw [show qx-px=(n:Int) by omega]
 grind
theorem sgn_le {d u b v:Int} (hd:0 < d) (hb:0 < b) (h:d*u=b*v):u≤0↔v≤0:=by
 constructor
 ·intro hu
  refine Int.not_lt.1 fun hv=>?_
  have h1:=Int.mul_pos hb hv
  have h2:=Int.mul_le_mul_of_nonneg_left hu (Int.le_of_lt hd)
  rw [Int.mul_zero] at h2
  omega
 ·intro hv
  refine Int.not_lt.1 fun hu=>?_
  have h1:=Int.mul_pos hd hu
  have h2:=Int.mul_le_mul_of_nonneg_left hv (Int.le_of_lt hb)
  rw [Int.mul_zero] at h2
  omega
theorem sgn_lt {d u b v:Int} (hd:0 < d) (hb:0 < b) (h:d*u=b*v):u < 0↔v < 0:=by
 have h1:d*(-u)=b*(-v):=by grind
 have:=sgn_le hd hb h1
 omega
theorem floor_le {d N k:Int} (hd:0 < d):d*k-N≤0↔k≤N / d:=by
 rw [Int.le_ediv_iff_mul_le hd,Int.mul_comm k d]; omega
theorem ceil_le {d N k:Int} (hd:0 < d):0≤d*k-N↔-((-N) / d)≤k:=by
 have:=Int.le_ediv_iff_mul_le (a:=-k) (b:=-N) hd
 rw [Int.neg_mul,Int.mul_comm k d] at this
 omega
theorem up_iff {a b c px py qx qy:Int} (x y:Int) (hb:0 < b) (hd:px < qx) (hp:a*px+b*py=c) (hq:a*qx+b*qy=c) :
  (a*x+b*y≤c↔y≤fl px py qx qy x)∧(a*x+b*y < c↔y < ce px py qx qy x):=by
 have hd':0 < qx-px:=by omega
 have key:(qx-px)*(a*x+b*y-c)=b*((qx-px)*(y-py)-(qy-py)*(x-px)):=by grind
 have h1:=sgn_le hd' hb key
 have h2:=sgn_lt hd' hb key
 have h3:=floor_le (N:=(qy-py)*(x-px)) (k:=y-py) hd'
 have h4:=ceil_le (N:=(qy-py)*(x-px)) (k:=y-py) hd'
 unfold fl ce
 constructor <;> omega
theorem dn_iff {a b c px py qx qy:Int} (x y:Int) (hb:b < 0) (hd:px < qx) (hp:a*px+b*py=c) (hq:a*qx+b*qy=c) :
  (a*x+b*y≤c↔ce px py qx qy x≤y)∧(a*x+b*y < c↔fl px py qx qy x < y):=by
 have hd':0 < qx-px:=by omega
 have key:(qx-px)*(a*x+b*y-c)=(-b)*(-((qx-px)*(y-py)-(qy-py)*(x-px))):=by grind
 have h1:=sgn_le hd' (by omega:0 < -b) key
 have h2:=sgn_lt hd' (by omega:0 < -b) key
 have h3:=floor_le (N:=(qy-py)*(x-px)) (k:=y-py) hd'
 have h4:=ceil_le (N:=(qy-py)*(x-px)) (k:=y-py) hd'
 unfold fl ce
 constructor <;> omega
end Go.Proofs.YtadpjlpdfimaeaaGreatDoor.Pick
