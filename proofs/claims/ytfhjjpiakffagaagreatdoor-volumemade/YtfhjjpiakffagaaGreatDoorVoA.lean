import Derived.Test.YtfhjjpiakffagaaGreatDoorGZ
import Derived.Test.YtfhjjpiakffagaaGreatDoorRgY
import Derived.Test.YtfhjjpiakffagaaGreatDoorShY
import Derived.Test.YtfhjjpiakffagaaGreatDoorHmA
namespace Go.Proofs.YtfhjjpiakffagaaGreatDoor
open Go.RowKit Lin
structure RwD (B:Nat) (w:World) (vs:List Value) (m:List (List Int)):Prop where
 len:vs.length=m.length
 own:∀i,i < m.length→w.ownsRow B 3 1 (vs.getD i (.slice none 0 0)) (m.getD i []).length (ints (m.getD i []))
 ap:∀i j,i < m.length→j < m.length→i≠j→∀g,(vs.getD i (.slice none 0 0)).ownBlock=some g→(vs.getD j (.slice none 0 0)).ownBlock≠some g
theorem RwD.nil (B:Nat) (w:World):RwD B w [] []:=⟨rfl,fun i h=>absurd h (by simp),fun i j h=>absurd h (by simp)⟩
theorem RwD.below {B N:Nat} {w w':World} {vs:List Value} {m:List (List Int)} (h:RwD B w vs m) (hb:Below N w w') (hN:w.heap.size≤N):RwD B w' vs m:=
 ⟨h.len,fun i hi=>owns_below (h.own i hi) hb hN,h.ap⟩
theorem RwD.alloc {B:Nat} {w:World} {vs:List Value} {m:List (List Int)} (h:RwD B w vs m) (o:Obj):RwD B (w.alloc o) vs m:=
 ⟨h.len,fun i hi=>(h.own i hi).alloc o,h.ap⟩
theorem RwD.kept {B:Nat} {w w':World} {vs:List Value} {m:List (List Int)} {row:Option Nat} (h:RwD B w vs m) (hg:w.grownBy w' row) (hne:∀g,row=some g→∀cur,w.heap[g]?≠some (.cells cur 3 (0,0))):RwD B w' vs m:=by
 refine ⟨h.len,fun i hi=>(h.own i hi).kept hg ?_,h.ap⟩
 by_cases e:(vs.getD i (.slice none 0 0)).ownBlock=none
 ·exact Or.inl e
 ·refine Or.inr fun q=>?_
  obtain ⟨g,hg'⟩:=Option.ne_none_iff_exists'.1 e
  rcases (h.own i hi).2 with ⟨h1,_⟩ | ⟨b,cap,cur,h1,h2,h3,_⟩
  ·rw [h1] at hg'; simp [Value.ownBlock] at hg'
  ·rw [h1] at hg'
   simp [Value.ownBlock] at hg'
   subst hg'
   exact hne b (by rw [←q,h1]; rfl) cur h3
theorem RwD.grow {B k:Nat} {w w':World} {vs:List Value} {m:List (List Int)} {v':Value} {r':List Int} (h:RwD B w vs m) (hk:k < m.length) (hg:w.grownBy w' (vs.getD k (.slice none 0 0)).ownBlock)
  (ho:w'.ownsRow B 3 1 v' r'.length (ints r')) (hb:v'.ownBlock=(vs.getD k (.slice none 0 0)).ownBlock∨v'.ownBlock=some w.heap.size):RwD B w' (vs.set k v') (m.set k r'):=by
 have hkv:k < vs.length:=by rw [h.len]; exact hk
 have hlt:∀i,i < m.length→∀g,(vs.getD i (.slice none 0 0)).ownBlock=some g→g < w.heap.size:=fun i hi g hg=>((h.own i hi).lt g hg).2
 have e1:(vs.set k v').getD k (.slice none 0 0)=v':=by simp [hkv]
 have e2:∀i,i≠k→(vs.set k v').getD i (.slice none 0 0)=vs.getD i (.slice none 0 0):=fun i hi=>by
  simp only [List.getD_eq_getElem?_getD]; rw [List.getElem?_set_ne (Ne.symm hi)]
 have e3:(m.set k r').getD k []=r':=by simp [hk]
 have e4:∀i,i≠k→(m.set k r').getD i []=m.getD i []:=fun i hi=>by
  simp only [List.getD_eq_getElem?_getD]; rw [List.getElem?_set_ne (Ne.symm hi)]
 refine ⟨by simp [h.len],fun i hi=>?_,fun i j hi hj hij g hg1 hg2=>?_⟩
 ·rw [List.length_set] at hi
  by_cases e:i=k
  ·subst e; rw [e1,e3]; exact ho
  ·rw [e2 i e,e4 i e]
   refine (h.own i hi).kept hg ?_
   by_cases e5:(vs.getD i (.slice none 0 0)).ownBlock=none
   ·exact Or.inl e5
   ·refine Or.inr fun q=>?_
    obtain ⟨g,hg'⟩:=Option.ne_none_iff_exists'.1 e5
    exact h.ap i k hi hk e g hg' (by rw [←q]; exact hg')
 ·rw [List.length_set] at hi hj
  by_cases ei:i=k
  ·subst ei
   have ej:j≠i:=fun e=>hij e.symm
   rw [e1] at hg1
   rw [e2 j ej] at hg2
   rcases hb with hb | hb
   ·rw [hb] at hg1
    exact h.ap i j hi hj hij g hg1 hg2
   ·rw [hb] at hg1
    have:=hlt j hj g hg2
    simp at hg1
    omega
  ·rw [e2 i ei] at hg1
   by_cases ej:j=k
   ·subst ej
    rw [e1] at hg2
    rcases hb with hb | hb
    ·rw [hb] at hg2
     exact h.ap i j hi hj hij g hg1 hg2
    ·rw [hb] at hg2
     have:=hlt i hi g hg1
     simp at hg2
     omega
   ·rw [e2 j ej] at hg2
    exact h.ap i j hi hj hij g hg1 hg2
theorem RwD.app {B B2:Nat} {w:World} {vs us:List Value} {m k:List (List Int)} (h:RwD B w vs m) (hu:RwD B2 w us k) (hB:B≤B2) (hlt:∀i,i < m.length→∀g,(vs.getD i (.slice none 0 0)).ownBlock=some g→g < B2):RwD B w (vs ++ us) (m ++ k):=by
 have hl:=h.len
 have hul:=hu.len
 have e1:∀i,i < m.length→(vs ++ us).getD i (.slice none 0 0)=vs.getD i (.slice none 0 0)∧(m ++ k).getD i []=m.getD i []:=fun i hi=>by
  simp only [List.getD_eq_getElem?_getD]
  rw [List.getElem?_append_left (by omega),List.getElem?_append_left hi]
  exact ⟨rfl,rfl⟩
 have e2:∀i,¬i < m.length→(vs ++ us).getD i (.slice none 0 0)=us.getD (i-m.length) (.slice none 0 0)∧(m ++ k).getD i []=k.getD (i-m.length) []:=fun i hi=>by
  simp only [List.getD_eq_getElem?_getD]
  rw [List.getElem?_append_right (by omega),List.getElem?_append_right (by omega),hl]
  exact ⟨rfl,rfl⟩
 have hge:∀i,i < k.length→∀g,(us.getD i (.slice none 0 0)).ownBlock=some g→B2≤g:=fun i hi g hg=>((hu.own i hi).lt g hg).1
 refine ⟨by simp [hl,hul],fun i hi=>?_,fun i j hi hj hij g hg1 hg2=>?_⟩
 ·rw [List.length_append] at hi
  by_cases hm:i < m.length
  ·rw [(e1 i hm).1,(e1 i hm).2]; exact h.own i hm
  ·rw [(e2 i hm).1,(e2 i hm).2]; exact (hu.own _ (by omega)).mono hB
 ·rw [List.length_append] at hi hj
  by_cases hi2:i < m.length
  ·rw [(e1 i hi2).1] at hg1
   by_cases hj2:j < m.length
   ·rw [(e1 j hj2).1] at hg2
    exact h.ap i j hi2 hj2 hij g hg1 hg2
   ·rw [(e2 j hj2).1] at hg2
    have:=hlt i hi2 g hg1
    have:=hge _ (by omega) g hg2
    omega
  ·rw [(e2 i hi2).1] at hg1
   by_cases hj2:j < m.length
   ·rw [(e1 j hj2).1] at hg2
    have:=hlt j hj2 g hg2
    have:=hge _ (by omega) g hg1
    omega
   ·rw [(e2 j hj2).1] at hg2
    exact hu.ap (i-m.length) (j-m.length) (by omega) (by omega) (by omega) g hg1 hg2
theorem RwD.sl {B:Nat} {w:World} {vs:List Value} {m:List (List Int)} (h:RwD B w vs m) (i:Nat) (hi:i < m.length):Sl 0 3 w (vs.getD i (.slice none 0 0)) (ints (m.getD i [])):=Sl.own (h.own i hi)
end Go.Proofs.YtfhjjpiakffagaaGreatDoor
namespace Go.Proofs.YtfhjjpiakffagaaGreatDoor
open Go.RowKit Lin
attribute [local go_sem ↓] Go.wp_at_zero Go.wp_at_succ
theorem setN_ltn {n:Nat} : ∀l:List Int,(∀x∈l,0≤x∧x < (n:Int))→setN l < 2 ^ n
 | [],_=>by simp [setN]; exact Nat.pow_pos (by decide)
 | v :: l,h=>by
  have h1:=h v (by simp)
  unfold setN
  exact Nat.or_lt_two_pow (Nat.pow_lt_pow_right (by decide) (by omega)) (setN_ltn l fun x hx=>h x (by simp [hx]))
set_option maxRecDepth 100000 in
set_option maxHeartbeats 800000 in
theorem setR_any (B:Nat) (l:List Int) (v:Value) (w:World) (hv:Sl B 3 w v (ints l)) (hb:∀x∈l,0≤x∧x < (10:Int)) :
  Calls Tryz.prog 42 #[v] w fun e w'=>e=.returned (.int .i64 (setN l:Nat))∧w'=w:=by
 obtain ⟨ao,cap,hvv,hlc,hcm⟩:=sl_open hv
 subst hvv
 have HV:Hid (Sl B 3 w (.slice ao l.length cap) (ints l)):=hv
 have HX:Hid (∀x∈l,0≤x∧x < (10:Int)):=hb
 clear hv hb
 go_enter Tryz.func42,Tryz.ntmps42
 go_wp2
 go_loopw [3,4] (fun sv iv wr=>∃k:Nat,k≤l.length∧iv=.int .i64 (k:Int)∧sv=.int .i64 ((setN (l.take k):Nat):Int)∧wr=w) (fun _ iv _=>l.length-(intOf iv).toNat)
 case atStart=>exact ⟨0,Nat.zero_le _,rfl,by simp [setN],rfl⟩
 case round=>
  obtain ⟨k,hk,rfl,rfl,rfl⟩:=hrel
  by_cases hlt:k < l.length
  ·obtain ⟨b,o,cp,hs,_,hcc⟩:=sl_cell HV.out hlt
   simp only [Value.slice.injEq,true_and] at hs
   obtain ⟨rfl,rfl⟩:=hs
   have hm:l.getD k 0∈l:=getD_mem hlt
   have hx:=HX.out _ hm
   have hS:setN (l.take k) < 2 ^ 10:=setN_ltn _ fun x hx=>HX.out x (List.mem_of_mem_take hx)
   have hsu:setN (l.take (k+1))=setN (l.take k) ||| 2 ^ (l.getD k 0).toNat:=by
    rw [List.take_succ_eq_append_getElem hlt,setN_app]
    congr 2
    simp [hlt]
   obtain ⟨j,hj⟩:∃j:Nat,l.getD k 0=(j:Int):=⟨(l.getD k 0).toNat,by omega⟩
   rw [hj] at hcc hx hsu
   rw [Int.toNat_natCast] at hsu
   have hj10:j < 10:=by omega
   have hpj:2 ^ j < 2 ^ 10:=Nat.pow_lt_pow_right (by decide) hj10
   have HBT:Hid (bits .or .i64 (setN (l.take k):Int) (wrap64 ((2:Int) ^ j))=(setN (l.take (k+1)):Int)):=by
    have e:((2:Int) ^ j)=((2 ^ j:Nat):Int):=by simp
    show bits .or .i64 (setN (l.take k):Int) (wrap64 ((2:Int) ^ j))=(setN (l.take (k+1)):Int)
    rw [hsu,e]
    generalize 2 ^ j=q at *
    rw [IntWalk.wrap64_in (q:Int) ⟨by omega,by omega⟩]
    exact bits_or_i64_nat _ q (by omega) (by omega)
   have hkI:(k:Int) < (l.length:Int):=by omega
   have hj0:(0:Int)≤(j:Int):=by omega
   clear hm hj hS hsu hpj
   generalize setN (l.take k)=S at *
   obtain ⟨S1,hS1⟩:∃S1,S1=setN (l.take (k+1)):=⟨_,rfl⟩
   have HS1:Hid (S1=setN (l.take (k+1))):=hS1
   rw [←hS1] at HBT
   clear hS1
   go_wp2
   exact ⟨⟨k+1,by omega,by go_num,by rw [HBT.out,HS1.out],by first | rfl | trivial⟩,by simp [intOf]; omega⟩
  ·have hke:l.take k=l:=List.take_of_length_le (by omega)
   rw [hke]
   go_wp2
   go_ret
   exact ⟨rfl,rfl⟩
end Go.Proofs.YtfhjjpiakffagaaGreatDoor
namespace Go.Proofs.YtfhjjpiakffagaaGreatDoor
open Go.RowKit Lin
theorem owns_type {w:World} {B n:Nat} {e:TypeId} {v:Value} {xs:List Value} (h:w.ownsRow B e 1 v n xs) {g:Nat} (hg:v.ownBlock=some g):∃cur,w.heap[g]?=some (.cells cur e (0,0)):=by
 rcases h.2 with ⟨h1,_⟩ | ⟨b,cap,cur,h1,h2,h3,_⟩
 ·rw [h1] at hg; simp [Value.ownBlock] at hg
 ·rw [h1] at hg
  simp [Value.ownBlock] at hg
  subst hg
  exact ⟨cur,h3⟩
theorem owns_apart {w:World} {B B' n n':Nat} {e e':TypeId} {v v':Value} {xs xs':List Value} (h:w.ownsRow B e 1 v n xs) (h':w.ownsRow B' e' 1 v' n' xs') (he:e≠e'):v.ownBlock=none∨v.ownBlock≠v'.ownBlock:=by
 by_cases q:v.ownBlock=none
 ·exact Or.inl q
 ·refine Or.inr fun e2=>?_
  obtain ⟨g,hg⟩:=Option.ne_none_iff_exists'.1 q
  obtain ⟨c1,k1⟩:=owns_type h hg
  obtain ⟨c2,k2⟩:=owns_type h' (by rw [←e2]; exact hg)
  rw [k1] at k2
  simp at k2
  exact he k2.2
structure PlI (B:Nat) (W0:World) (ov:Value) (vsD:List Value) (cv:Value) (us usR:List Value) (mD mR:List (List Int)) (wr:World):Prop where
 o:wr.ownsRow B 22 1 ov mD.length vsD
 c:wr.ownsRow B 22 1 cv us.length us
 ap:∀g,ov.ownBlock=some g→cv.ownBlock≠some g
 rw:RwD B wr (vsD ++ usR) (mD ++ mR)
 ld:vsD.length=mD.length
 bel:Below B W0 wr
 lo:B≤wr.heap.size
theorem PlI.head {B:Nat} {W0:World} {ov cv u:Value} {vsD us usR:List Value} {mD mR:List (List Int)} {r:List Int} {wr:World} (h:PlI B W0 ov vsD cv us (u :: usR) mD (r :: mR) wr):wr.ownsRow B 3 1 u r.length (ints r):=by
 have h1:=h.rw.own mD.length (by simp)
 have e1:(vsD ++ u :: usR).getD mD.length (.slice none 0 0)=u:=by
  simp only [List.getD_eq_getElem?_getD]; rw [List.getElem?_append_right (by rw [h.ld]; exact Nat.le_refl _),h.ld]; simp
 have e2:(mD ++ r :: mR).getD mD.length []=r:=by
  simp only [List.getD_eq_getElem?_getD]; rw [List.getElem?_append_right (Nat.le_refl _)]; simp
 rwa [e1,e2] at h1
theorem PlI.step1 {B:Nat} {W0:World} {ov cv u v':Value} {vsD us usR:List Value} {mD mR:List (List Int)} {r:List Int} {f:Int} {wr w2:World} {A:Obj} (h:PlI B W0 ov vsD cv us (u :: usR) mD (r :: mR) wr)
  (ho:w2.ownsRow B 3 1 v' (r.length+1) (ints r ++ [.int .i64 f])) (hg:(wr.alloc A).grownBy w2 u.ownBlock) (hb:v'.ownBlock=u.ownBlock∨v'.ownBlock=some (wr.alloc A).heap.size) :
  w2.ownsRow B 22 1 ov mD.length vsD∧w2.ownsRow B 22 1 cv us.length us∧RwD B w2 (vsD ++ v' :: usR) (mD ++ (r ++ [f]) :: mR)∧Below B W0 w2∧B≤w2.heap.size:=by
 have hu:=h.head
 have hlo:=h.lo
 have e1:(vsD ++ u :: usR).getD mD.length (.slice none 0 0)=u:=by
  simp only [List.getD_eq_getElem?_getD]; rw [List.getElem?_append_right (by rw [h.ld]; exact Nat.le_refl _),h.ld]; simp
 have e3:(vsD ++ u :: usR).set mD.length v'=vsD ++ v' :: usR:=by rw [←h.ld]; simp
 have e4:(mD ++ r :: mR).set mD.length (r ++ [f])=mD ++ (r ++ [f]) :: mR:=by simp
 refine ⟨(h.o.alloc A).kept hg (owns_apart h.o hu (by decide)),(h.c.alloc A).kept hg (owns_apart h.c hu (by decide)),?_,(h.bel.alloc hlo _).grown hg (by simp; omega) (fun x hx=>(hu.lt x hx).1),?_⟩
 ·have hr:=(h.rw.alloc A).grow (k:=mD.length) (v':=v') (r':=r ++ [f]) (by simp) (by rw [e1]; exact hg) (by rw [List.length_append]; simpa [ints] using ho) (by rw [e1]; exact hb)
  rw [e3,e4] at hr
  exact hr
 ·have:=hg.size
  simp at this
  omega
theorem PlI.step2 {B:Nat} {W0:World} {ov cv ov' v':Value} {vsD us usR:List Value} {mD mR:List (List Int)} {r':List Int} {w2 w4:World} {A:Obj} (hap:∀g,ov.ownBlock=some g→cv.ownBlock≠some g) (hld:vsD.length=mD.length)
  (h1:w2.ownsRow B 22 1 ov mD.length vsD) (h2:w2.ownsRow B 22 1 cv us.length us) (h3:RwD B w2 (vsD ++ v' :: usR) (mD ++ r' :: mR)) (h4:Below B W0 w2) (h5:B≤w2.heap.size)
  (ho:w4.ownsRow B 22 1 ov' (mD.length+1) (vsD ++ [v'])) (hg:(w2.alloc A).grownBy w4 ov.ownBlock) (hb:ov'.ownBlock=ov.ownBlock∨ov'.ownBlock=some (w2.alloc A).heap.size) :
  PlI B W0 ov' (vsD ++ [v']) cv us usR (mD ++ [r']) mR w4:=by
 refine ⟨by rw [List.length_append]; exact ho,(h2.alloc A).kept hg ?_,fun g hg1 hg2=>?_,?_,by simp [hld],(h4.alloc h5 _).grown hg (by simp; omega) (fun x hx=>(h1.lt x hx).1),?_⟩
 ·by_cases e:cv.ownBlock=none
  ·exact Or.inl e
  ·refine Or.inr fun q=>?_
   obtain ⟨g,hg'⟩:=Option.ne_none_iff_exists'.1 e
   exact hap g (by rw [←q]; exact hg') hg'
 ·rcases hb with hb | hb
  ·exact hap g (by rw [←hb]; exact hg1) hg2
  ·rw [hb] at hg1
   have:=(h2.lt g hg2).2
   simp at hg1
   omega
 ·have hk:=(h3.alloc A).kept hg fun g hgo cur hc=>by
   obtain ⟨c1,k1⟩:=owns_type (h1.alloc A) hgo
   rw [k1] at hc
   simp at hc
  simpa using hk
 ·have:=hg.size
  simp at this
  omega
end Go.Proofs.YtfhjjpiakffagaaGreatDoor
namespace Go.Proofs.YtfhjjpiakffagaaGreatDoor
open Go.RowKit Lin
attribute [local go_sem ↓] Go.wp_at_zero Go.wp_at_succ
def pulT (LV:Nat→List (List Int)) (order:List Int) (t:Nat) (face:List Int) (i:Nat):List (List Int):=((LV (t+1)).take i).flatMap fun g=>if tkB order face g then (pulD LV order (t+1) g).map fun c=>c ++ [fstO order face] else []
theorem pulT_snoc {LV:Nat→List (List Int)} {order:List Int} {t:Nat} {face:List Int} {i:Nat} (hi:i < (LV (t+1)).length):pulT LV order t face (i+1)=pulT LV order t face i ++ if tkB order face ((LV (t+1)).getD i []) then (pulD LV order (t+1) ((LV (t+1)).getD i [])).map fun c=>c ++ [fstO order face] else []:=by
 unfold pulT
 rw [List.take_succ_eq_append_getElem hi,List.flatMap_append]
 simp [hi]
theorem pulT_all (LV:Nat→List (List Int)) (order:List Int) (t:Nat) (face:List Int):pulT LV order t face (LV (t+1)).length=pulD LV order (t+2) face:=by
 unfold pulT
 rw [List.take_length]
 rfl
theorem pulT_len {LV:Nat→List (List Int)} {order:List Int} {n:Nat} (h:LvO LV order n) (t:Nat) (face:List Int) (i:Nat):(pulT LV order t face i).length≤1024 ^ (t+1):=by
 unfold pulT
 refine Nat.le_trans (flat_len _ (1024 ^ t) _ fun g _=>?_) ?_
 ·split
  ·rw [List.length_map]; exact pulD_len LV order h.len t g
  ·simp
 ·rw [Nat.pow_succ,Nat.mul_comm (1024 ^ t)]
  exact Nat.mul_le_mul_right _ (Nat.le_trans (by rw [List.length_take]; exact Nat.min_le_right _ _) (h.len (t+1)))
theorem pow4 {t:Nat} (h:t≤4):1024 ^ t≤1099511627776:=Nat.le_trans (Nat.pow_le_pow_right (by decide) h) (by decide)
def PulP (LV:Nat→List (List Int)) (order:List Int) (t:Nat) (face:List Int) (w:World) (e:Ending) (w':World):Prop:=
 ∃xo xc vs,e=.returned (.slice xo (pulD LV order t face).length xc)∧w'.ownsRow w.heap.size 22 1 (.slice xo (pulD LV order t face).length xc) (pulD LV order t face).length vs∧RwD w.heap.size w' vs (pulD LV order t face)∧Below w.heap.size w w'
set_option maxRecDepth 100000 in
set_option maxHeartbeats 1600000 in
theorem pulledD_one {LV:Nat→List (List Int)} {order:List Int} (j:Nat) (lo:Option Addr) (lc:Nat) (ov:Value) (face:List Int) (fo:Option Addr) (fc:Nat) (w:World) (hf:Sl w.heap.size 3 w (.slice fo face.length fc) (ints face)) (hl:face.length≤10) (oo:Option Addr) (ol oc:Nat) (hov:ov=.slice oo ol oc) :
  Calls Tryz.prog 41 #[.slice lo j lc,ov,.slice fo face.length fc,.int .i64 1] w (PulP LV order 1 face w):=by
 subst hov
 have HC:Hid (Calls Tryz.prog 30 #[.slice fo face.length fc] w fun e w'=>∃uo uc,e=.returned (.slice uo face.length uc)∧w'.ownsRow w.heap.size 3 1 (.slice uo face.length uc) face.length (ints face)∧Below w.heap.size w w'):=by
  refine (copy_any w.heap.size face _ w hf (by omega)).mono ?_
  rintro e w' ⟨u,rfl,ho,hb⟩
  obtain ⟨uo,uc,rfl⟩:=owns_form ho
  exact ⟨uo,uc,rfl,ho,hb⟩
 clear hf
 go_enter Tryz.func41,Tryz.ntmps41
 go_wp2_with fail
 refine HC.out.mono ?_
 rintro e w1 ⟨uo,uc,rfl,ho,hb⟩
 have HO:Hid (w1.ownsRow w.heap.size 3 1 (.slice uo face.length uc) face.length (ints face)):=ho
 have HB:Hid (Below w.heap.size w w1):=hb
 clear ho hb HC
 go_wp2
 go_ret
 have hsz:=HB.out.size
 refine ⟨some ⟨w1.heap.size,0,none⟩,1,[.slice uo face.length uc],rfl,⟨rfl,Or.inr ⟨w1.heap.size,1,#[.slice uo face.length uc],rfl,hsz,alloc_at _ _,Nat.le_refl _,by unfold maxLen; omega,rfl,rfl⟩⟩,⟨rfl,fun i hi=>?_,fun i j hi hj hij=>?_⟩,HB.out.alloc hsz _⟩
 ·have:i=0:=by simp [pulD] at hi; omega
  subst this
  exact HO.out.alloc _
 ·simp [pulD] at hi hj
  omega
set_option maxRecDepth 100000 in
set_option maxHeartbeats 3200000 in
theorem pulledD_more {LV:Nat→List (List Int)} {order:List Int} {n j:Nat} (h:LvO LV order n) (hn:n≤10) (lo:Option Addr) (lc:Nat) (oo:Option Addr) (oc:Nat) (t:Nat) (ht:t≤3) (htj:t+2 < j)
  (ih:∀(g:List Int) (go:Option Addr) (gc:Nat) (w:World),g∈LV (t+1)→LvV w (.slice lo j lc) j LV→Sl w.heap.size 3 w (.slice oo order.length oc) (ints order)→Sl w.heap.size 3 w (.slice go g.length gc) (ints g)→Calls Tryz.prog 41 #[.slice lo j lc,.slice oo order.length oc,.slice go g.length gc,.int .i64 ((t+1:Nat):Int)] w (PulP LV order (t+1) g w))
  (face:List Int) (fo:Option Addr) (fc:Nat) (w:World) (hface:face∈LV (t+2)) (hL:LvV w (.slice lo j lc) j LV) (hO:Sl w.heap.size 3 w (.slice oo order.length oc) (ints order)) (hF:Sl w.heap.size 3 w (.slice fo face.length fc) (ints face)) :
  Calls Tryz.prog 41 #[.slice lo j lc,.slice oo order.length oc,.slice fo face.length fc,.int .i64 ((t+2:Nat):Int)] w (PulP LV order (t+2) face w):=by
 obtain ⟨i0,hi,hz0,hz1,hz2⟩:=info_parts Tryz.info22
 obtain ⟨i3,hi3,hz30,hz31,hz32⟩:=info_parts Tryz.info3
 have h10:∀x∈face,0≤x∧x < (10:Int):=fun x hx=>by have:=(h.row _ face hface).2 x hx; omega
 have HLX:Hid (∀X,Below w.heap.size w X→LvV X (.slice lo j lc) j LV):=fun X hb=>hL.low hb
 have HOX:Hid (∀X,Below w.heap.size w X→Sl X.heap.size 3 X (.slice oo order.length oc) (ints order)):=fun X hb=>(hO.below hb (Nat.le_refl _)).any (Nat.le_refl _)
 have HFX:Hid (∀X,Below w.heap.size w X→Sl X.heap.size 3 X (.slice fo face.length fc) (ints face)):=fun X hb=>(hF.below hb (Nat.le_refl _)).any (Nat.le_refl _)
 have HIF:Hid (∀X x,Below w.heap.size w X→Calls Tryz.prog 8 #[.int .i64 x,.slice fo face.length fc] X fun e w'=>e=.returned (.bool (face.contains x))∧Below w.heap.size w w'):=fun X x hb=>(inR_any X.heap.size x face _ X (HFX.out X hb)).mono fun e w' ⟨e1,nn,e2⟩=>⟨e1,by rw [e2]; exact below_drewN hb nn⟩
 have HLV:Hid (∀X,Below w.heap.size w X→∃b o ro rc,lo=some ⟨b,o,none⟩∧X.cell? ⟨b,o+(t+1),none⟩=some (.slice ro (LV (t+1)).length rc)∧Mat X.heap.size 22 3 X (.slice ro (LV (t+1)).length rc) (LV (t+1))):=fun X hb=>by
  obtain ⟨ao2,cap2,e,hr⟩:=(hL.low hb).rows
  simp only [Value.slice.injEq,true_and] at e
  obtain ⟨rfl,rfl⟩:=e
  exact hr X (t+1) (Below.refl _ _) (by omega)
 have HFS:Hid (fstO order face∈order∧fstO order face∈face):=fstO_mem (h.has _ face hface)
 have HOB:Hid (∀x∈order,0≤x∧x < (10:Int)):=fun x hx=>by have:=h.ord x hx; omega
 have HTK:Hid (∀k,k < order.length→(∀x∈order.take k,x∉face)→order.getD k 0∈face→fstO order face=order.getD k 0):=fun k hk h1 h2=>fstO_take hk h1 h2
 have HSF:Hid (∀X,Below w.heap.size w X→Calls Tryz.prog 42 #[.slice fo face.length fc] X fun e w'=>e=.returned (.int .i64 (setN face:Nat))∧w'=X):=fun X hb=>setR_any X.heap.size face _ X (HFX.out X hb) h10
 have HIH:Hid (∀(g:List Int) (go:Option Addr) (gc:Nat) (X:World),g∈LV (t+1)→Below w.heap.size w X→Sl X.heap.size 3 X (.slice go g.length gc) (ints g)→Calls Tryz.prog 41 #[.slice lo j lc,.slice oo order.length oc,.slice go g.length gc,.int .i64 ((t+1:Nat):Int)] X (PulP LV order (t+1) g X)):=fun g go gc X hg hb hs=>ih g go gc X hg (HLX.out X hb) (HOX.out X hb) hs
 have HGR:Hid (∀g∈LV (t+1),g.length≤10∧∀x∈g,0≤x∧x < (10:Int)):=fun g hg=>⟨(h.row _ g hg).1,fun x hx=>by have:=(h.row _ g hg).2 x hx; omega⟩
 have HPL:Hid (∀i,(pulT LV order t face i).length≤1099511627776):=fun i=>Nat.le_trans (pulT_len h t face i) (pow4 (by omega))
 have HPD:Hid (∀g,(pulD LV order (t+1) g).length≤1099511627776):=fun g=>Nat.le_trans (pulD_len LV order h.len t g) (pow4 (by omega))
 have HPR:Hid (∀g∈LV (t+1),∀c∈pulD LV order (t+1) g,c.length≤20):=fun g hg c hc=>by have:=(pulD_mem h t g hg c hc).1; omega
 have HSN:Hid (∀i,i < (LV (t+1)).length→pulT LV order t face (i+1)=pulT LV order t face i ++ if tkB order face ((LV (t+1)).getD i []) then (pulD LV order (t+1) ((LV (t+1)).getD i [])).map fun c=>c ++ [fstO order face] else []):=fun i hi=>pulT_snoc hi
 have HAL:Hid (pulT LV order t face (LV (t+1)).length=pulD LV order (t+2) face):=pulT_all LV order t face
 have hLl:=h.len (t+1)
 have hol10:=h.olen
 have tl1:(((t+2:Nat):Int) == 1)=false:=by simp; omega
 have tsb:((t+2:Nat):Int)-1=((t+1:Nat):Int):=by omega
 have twr:IntKind.wrap .i64 ((t+1:Nat):Int)=((t+1:Nat):Int):=by rw [IntKind.wrap_i64]; omega
 obtain ⟨T2,hT2⟩:∃T2:Int,T2=((t+2:Nat):Int):=⟨_,rfl⟩
 obtain ⟨T1,hT1⟩:∃T1:Nat,T1=t+1:=⟨_,rfl⟩
 rw [←hT2] at tl1 tsb ⊢
 rw [←hT1] at tsb twr HIH HLV HGR HPD HPR HSN HAL hLl
 have hT1j:(T1:Int) < (j:Int):=by omega
 clear ih hL hO hF h10 hT2 hT1
 go_enter Tryz.func41,Tryz.ntmps41
 go_wp2
 go_loopw [9,10] (fun fv kv wr=>∃(k:Nat) (f:Int),k≤order.length∧kv=.int .i64 (k:Int)∧fv=.int .i64 f∧((f=-1∧∀x∈order.take k,x∉face)∨(0≤f∧f=fstO order face))∧Below w.heap.size w wr) (fun _ kv _=>order.length-(intOf kv).toNat)
 case atStart=>exact ⟨0,-1,Nat.zero_le _,rfl,rfl,Or.inl ⟨rfl,by simp⟩,Below.refl _ _⟩
 case round=>
  obtain ⟨k,f,hk,rfl,rfl,hor,hbr⟩:=hrel
  have HBR:Hid (Below w.heap.size w wr):=hbr
  clear hbr
  rcases hor with ⟨rfl,hno⟩ | ⟨hf0,hfe⟩
  ·have HNO:Hid (∀x∈order.take k,x∉face):=hno
   clear hno
   by_cases hlt:k < order.length
   ·obtain ⟨b,o,cp,hs,_,hcc⟩:=sl_cell (HOX.out wr HBR.out) hlt
    simp only [Value.slice.injEq,true_and] at hs
    obtain ⟨rfl,rfl⟩:=hs
    have hkI:(k:Int) < (order.length:Int):=by omega
    have HT:Hid (order.getD k 0∈face→fstO order face=order.getD k 0):=HTK.out k hlt HNO.out
    have HX0:Hid (0≤order.getD k 0):=(HOB.out _ (getD_mem hlt)).1
    have HNS:Hid (order.getD k 0∉face→∀x∈order.take (k+1),x∉face):=fun hx x hm=>by
     rw [List.take_succ_eq_append_getElem hlt] at hm
     rcases List.mem_append.1 hm with hm | hm
     ·exact HNO.out x hm
     ·simp at hm
      rw [hm]
      simpa [hlt] using hx
    have HIN:=HIF.out wr (order.getD k 0) HBR.out
    have HCX:Hid (∀X,Below w.heap.size w X→X.cell? ⟨b,o+k,none⟩=some (.int .i64 (order.getD k 0))):=fun X hX=>by
     obtain ⟨b',o',cp',hs',_,hcc'⟩:=sl_cell (HOX.out X hX) hlt
     simp only [Value.slice.injEq,Option.some.injEq,Addr.mk.injEq,and_true,true_and] at hs'
     obtain ⟨⟨rfl,rfl⟩,_⟩:=hs'
     exact hcc'
    generalize order.getD k 0=x at *
    by_cases hx:x∈face
    ·have hcx:face.contains x=true:=by simpa using hx
     rw [hcx] at HIN
     have HFE:Hid (x=fstO order face):=(HT.out hx).symm
     clear hx hcx HT HNS
     go_wp2_with fail
     refine HIN.mono ?_
     rintro e w2 ⟨rfl,hb2⟩
     have HB2:Hid (Below w.heap.size w w2):=hb2
     have hcc2:=HCX.out w2 hb2
     clear hb2 HIN
     go_wp2
     exact ⟨⟨k+1,x,by omega,by go_num,rfl,Or.inr ⟨HX0.out,HFE.out⟩,HB2.out⟩,by simp [intOf]; omega⟩
    ·have hcx:face.contains x=false:=by simpa using hx
     rw [hcx] at HIN
     have HN2:Hid (∀x∈order.take (k+1),x∉face):=HNS.out hx
     clear hx hcx HT HNS
     go_wp2_with fail
     refine HIN.mono ?_
     rintro e w2 ⟨rfl,hb2⟩
     have HB2:Hid (Below w.heap.size w w2):=hb2
     clear hb2 HIN
     go_wp2
     exact ⟨⟨k+1,-1,by omega,by go_num,rfl,Or.inl ⟨rfl,HN2.out⟩,HB2.out⟩,by simp [intOf]; omega⟩
   ·exfalso
    have e:order.take k=order:=List.take_of_length_le (by omega)
    have:=HNO.out
    rw [e] at this
    exact this _ HFS.out.1 HFS.out.2
  ·have HFE:Hid (f=fstO order face):=hfe
   have tf:decide (f < 0)=false:=decide_eq_false (by omega)
   clear hfe HTK HFS
   cases hdk:decide (k < order.length)
   all_goals (
    go_wp2
    clear hdk
    go_loopw [11,12] (fun ov iv wr=>∃(i:Nat) (oo':Option Addr) (oc':Nat) (vs:List Value),i≤(LV T1).length∧iv=.int .i64 (i:Int)∧ov=.slice oo' (pulT LV order t face i).length oc'∧wr.ownsRow w.heap.size 22 1 (.slice oo' (pulT LV order t face i).length oc') (pulT LV order t face i).length vs∧RwD w.heap.size wr vs (pulT LV order t face i)∧Below w.heap.size w wr) (fun _ iv _=>(LV T1).length-(intOf iv).toNat)
    case atStart=>exact ⟨0,none,0,[],Nat.zero_le _,rfl,rfl,World.ownsRow_nil _ _ _ _,RwD.nil _ _,HBR.out⟩
    case round=>
     clear HBR
     obtain ⟨i,xo,xc,vs,hil,rfl,rfl,ho,hrd,hbr⟩:=hrel
     have HO:Hid (wr.ownsRow w.heap.size 22 1 (.slice xo (pulT LV order t face i).length xc) (pulT LV order t face i).length vs):=ho
     have HRD:Hid (RwD w.heap.size wr vs (pulT LV order t face i)):=hrd
     have HBR:Hid (Below w.heap.size w wr):=hbr
     clear ho hrd hbr
     obtain ⟨lb,lf,ro,rc,hlo,hcl,hml⟩:=HLV.out wr HBR.out
     by_cases hlt:i < (LV T1).length
     ·obtain ⟨qb,qo,qcp,q1,hqs,_,hqc,hq1⟩:=mat_cell hml hlt
      simp only [Value.slice.injEq,true_and] at hqs
      obtain ⟨hro,rfl⟩:=hqs
      obtain ⟨go,gc,rfl,_,_⟩:=sl_open hq1
      have hgm:(LV T1).getD i []∈LV T1:=by simp [hlt]
      have HGM:Hid ((LV T1).getD i []∈LV T1):=hgm
      have HGX:Hid (∀X,Below wr.heap.size wr X→Sl X.heap.size 3 X (.slice go ((LV T1).getD i []).length gc) (ints ((LV T1).getD i []))):=fun X hX=>(hq1.below hX (Nat.le_refl _)).any (Nat.le_refl _)
      have HSU:Hid (pulT LV order t face (i+1)=pulT LV order t face i ++ if tkB order face ((LV T1).getD i []) then (pulD LV order T1 ((LV T1).getD i [])).map fun c=>c ++ [fstO order face] else []):=HSN.out i hlt
      have HIG:Hid (Calls Tryz.prog 8 #[.int .i64 f,.slice go ((LV T1).getD i []).length gc] wr fun e w'=>e=.returned (.bool (((LV T1).getD i []).contains f))∧Below wr.heap.size wr w'):=(inR_any wr.heap.size f _ _ wr (HGX.out wr (Below.refl _ _))).mono fun e w' ⟨e1,nn,e2⟩=>⟨e1,by rw [e2]; exact below_drewN (Below.refl _ _) nn⟩
      have HSG:Hid (∀X,Below wr.heap.size wr X→Calls Tryz.prog 42 #[.slice go ((LV T1).getD i []).length gc] X fun e w'=>e=.returned (.int .i64 (setN ((LV T1).getD i []):Nat))∧w'=X):=fun X hX=>setR_any X.heap.size _ _ X (HGX.out X hX) (HGR.out _ hgm).2
      have hg10:setN ((LV T1).getD i []) < 2 ^ 10:=setN_ltn _ (HGR.out _ hgm).2
      have HGI:=HIH.out ((LV T1).getD i []) go gc
      have hiI:(i:Int) < ((LV T1).length:Int):=by omega
      subst hlo hro
      clear hq1 hgm hml
      generalize (LV T1).getD i []=g at *
      have hsf:setN face < 2 ^ 10:=setN_ltn face fun x hx=>by have:=(h.row _ face hface).2 x hx; omega
      have hand:bits .and .i64 (setN g:Int) (setN face:Int)=((setN g &&& setN face:Nat):Int):=bits_and_i64_nat _ _ (by omega) (by omega)
      have HTB:Hid (tkB order face g=(!decide (f∈g) && decide (setN g &&& setN face=setN g))):=by
       show _=_
       unfold tkB
       rw [←HFE.out]
      by_cases hfg:f∈g
      ·have hct:g.contains f=true:=by simpa using hfg
       rw [hct] at HIG
       have HNX:Hid (pulT LV order t face (i+1)=pulT LV order t face i):=by
        have e:=HSU.out
        rw [HTB.out,decide_eq_true hfg] at e
        show pulT LV order t face (i+1)=pulT LV order t face i
        simpa using e
       generalize hgl:g.length=gl at *
       go_wp2_with fail
       refine HIG.out.mono ?_
       rintro e w2 ⟨rfl,hb2⟩
       have hbw2:=HBR.out.trans (hb2.mono HBR.out.size)
       have HOF:Hid (w2.ownsRow w.heap.size 22 1 (.slice xo (pulT LV order t face (i+1)).length xc) (pulT LV order t face (i+1)).length vs∧RwD w.heap.size w2 vs (pulT LV order t face (i+1))∧Below w.heap.size w w2):=by
        rw [HNX.out]
        exact ⟨owns_below HO.out hb2 (Nat.le_refl _),HRD.out.below hb2 (Nat.le_refl _),hbw2⟩
       rw [←HNX.out]
       clear hb2 hbw2 HO HRD
       go_wp2
       exact ⟨⟨i+1,xo,xc,vs,by omega,by go_num,rfl,HOF.out.1,HOF.out.2.1,HOF.out.2.2⟩,by simp [intOf]; omega⟩
      ·have hct:g.contains f=false:=by simpa using hfg
       rw [hct] at HIG
       generalize hSg:setN g=Sg at *
       generalize hSf:setN face=Sf at *
       generalize hSa:(Sg &&& Sf:Nat)=Sa at *
       generalize hgl:g.length=gl at *
       have HGL:Hid (g.length=gl):=hgl
       clear hgl hSg hSf
       go_wp2_with fail
       refine HIG.out.mono ?_
       rintro e w2 ⟨rfl,hb2⟩
       have HB2:Hid (Below wr.heap.size wr w2):=hb2
       clear hb2
       go_wp2_with fail
       refine (HSG.out w2 HB2.out).mono ?_
       rintro e w2a ⟨rfl,rfl⟩
       go_wp2_with fail
       refine (HSF.out w2a (HBR.out.trans (HB2.out.mono HBR.out.size))).mono ?_
       rintro e w2b ⟨rfl,rfl⟩
       go_wp2_with fail
       refine (HSG.out w2b HB2.out).mono ?_
       rintro e w2c ⟨rfl,rfl⟩
       by_cases hss:Sa=Sg
       ·have hne:((Sa:Int) != (Sg:Int))=false:=by simp [hss]
        have HNX:Hid (pulT LV order t face (i+1)=pulT LV order t face i ++ (pulD LV order T1 g).map fun c=>c ++ [f]):=by
         have e:=HSU.out
         rw [HTB.out,decide_eq_false hfg,decide_eq_true hss,←HFE.out] at e
         exact e
        have HBW:Hid (Below w.heap.size w w2c):=HBR.out.trans (HB2.out.mono HBR.out.size)
        have HRC:=HGI w2c HGM.out HBW.out (HGX.out w2c HB2.out)
        have HCL:Hid ((pulD LV order T1 g).length≤1099511627776):=HPD.out g
        have HML:Hid ((pulT LV order t face i).length≤1099511627776):=HPL.out i
        have HRL:Hid (∀c∈pulD LV order T1 g,c.length≤20):=HPR.out g HGM.out
        clear hss HGI HSU HTB HIG HSG HGX
        obtain ⟨m1,hm1⟩:∃m1,m1=pulT LV order t face (i+1):=⟨_,rfl⟩
        have HM1:Hid (m1=pulT LV order t face (i+1)):=hm1
        rw [←hm1] at HNX
        clear hm1
        generalize pulT LV order t face i=m at *
        unfold PulP at HRC
        generalize pulD LV order T1 g=c at *
        go_wp2_with fail
        refine HRC.mono ?_
        rintro e w3 ⟨co,cc,us,rfl,hco,hcr,hb3⟩
        have hul:=hcr.len
        have HP0:Hid (PlI w.heap.size w (.slice xo m.length xc) vs (.slice co c.length cc) us us m c w3):=by
         have b1:=HB2.out.size
         have b2:=HBR.out.size
         have hwr:Below wr.heap.size wr w3:=HB2.out.trans (hb3.mono b1)
         refine ⟨owns_below HO.out hwr (Nat.le_refl _),?_,fun g' h1 h2=>?_,?_,HRD.out.len,HBR.out.trans (hwr.mono b2),Nat.le_trans b2 (Nat.le_trans b1 hb3.size)⟩
         ·have:=hco.mono (show w.heap.size≤w2c.heap.size by omega)
          rw [←hul] at this
          rw [←hul]
          exact this
         ·have q1:=(HO.out.lt g' h1).2
          have q2:=(hco.lt g' h2).1
          omega
         ·exact (HRD.out.below hwr (Nat.le_refl _)).app hcr (by omega) fun i hi g' hg'=>by
           have:=((HRD.out.own i hi).lt g' hg').2
           omega
        have HB3:Hid (Below w.heap.size w w3):=HP0.out.bel
        have HUL:Hid (us.length=c.length):=hul
        have hcl3:c.length≤1099511627776:=HCL.out
        clear hco hcr hb3 HRC HO HRD hul HBR HB2
        go_wp2
        go_loopw [11,15] (fun ov kv wq=>∃(k:Nat) (ao:Option Addr) (ac ol:Nat) (vsD:List Value),k≤c.length∧kv=.int .i64 (k:Int)∧ov=.slice ao ol ac∧ol=m.length+k∧PlI w.heap.size w (.slice ao ol ac) vsD (.slice co c.length cc) us (us.drop k) (m ++ (c.take k).map fun c=>c ++ [f]) (c.drop k) wq) (fun _ kv _=>c.length-(intOf kv).toNat)
        case atStart=>exact ⟨0,xo,xc,m.length,vs,Nat.zero_le _,rfl,rfl,rfl,by simpa using HP0.out⟩
        case round=>
         obtain ⟨k2,ao,ac,ol,vsD,hk2,rfl,rfl,hol,hP⟩:=hrel
         have HP:Hid (PlI w.heap.size w (.slice ao ol ac) vsD (.slice co c.length cc) us (us.drop k2) (m ++ (c.take k2).map fun c=>c ++ [f]) (c.drop k2) wr):=hP
         have HOL:Hid (ol=m.length+k2):=hol
         have hol2:ol≤2199023255552:=by have:=HCL.out; have:=HML.out; omega
         clear hP hol HP0
         by_cases hlk:k2 < c.length
         ·have hkus:k2 < us.length:=by rw [HUL.out]; exact hlk
          have hd1:us.drop k2=us.getD k2 (.slice none 0 0) :: us.drop (k2+1):=by rw [List.drop_eq_getElem_cons hkus]; simp [hkus]
          have hd2:c.drop k2=c.getD k2 [] :: c.drop (k2+1):=by rw [List.drop_eq_getElem_cons hlk]; simp [hlk]
          have HPk:=HP.out
          rw [hd1,hd2] at HPk
          have hrl:(c.getD k2 []).length≤20:=HRL.out _ (by simp [hlk])
          have htk:(c.take (k2+1)).map (fun c=>c ++ [f])=(c.take k2).map (fun c=>c ++ [f]) ++ [c.getD k2 [] ++ [f]]:=by
           rw [List.take_succ_eq_append_getElem hlk,List.map_append]
           simp [hlk]
          obtain ⟨cb,cof,hcb,hcell⟩:∃cb cof,co=some ⟨cb,cof,none⟩∧wr.cell? ⟨cb,cof+k2,none⟩=some (us.getD k2 (.slice none 0 0)):=by
           obtain ⟨a1,a2,a3,_,_,a6,_⟩:=Sl.own (B:=0) HPk.c
           simp only [Value.slice.injEq] at a3
           obtain ⟨b,o,b1,b2,_⟩:=a6 k2 hkus
           refine ⟨b,o,a3.1.trans b1,?_⟩
           rw [b2]
           simp [hkus]
          obtain ⟨ro',rc',hu⟩:=owns_form HPk.head
          rw [hu] at hcell HPk
          have HPK:Hid (PlI w.heap.size w (.slice ao ol ac) vsD (.slice co c.length cc) us (.slice ro' (c.getD k2 []).length rc' :: us.drop (k2+1)) (m ++ (c.take k2).map fun c=>c ++ [f]) (c.getD k2 [] :: c.drop (k2+1)) wr):=HPk
          have HTK2:Hid ((c.take (k2+1)).map (fun c=>c ++ [f])=(c.take k2).map (fun c=>c ++ [f]) ++ [c.getD k2 [] ++ [f]]):=htk
          have HDL:Hid ((m ++ (c.take k2).map fun c=>c ++ [f]).length=ol):=by
           show _=_
           rw [HOL.out]
           simp
           omega
          have hkI2:(k2:Int) < (c.length:Int):=by omega
          subst hcb
          clear HPk hd1 hd2 hu htk hkus HP
          generalize c.getD k2 []=r at *
          generalize hrn:r.length=rn at *
          have HRN:Hid (r.length=rn):=hrn
          clear hrn
          have hhd:=HPK.out.head
          rw [HRN.out] at hhd
          have HHD:Hid (wr.ownsRow w.heap.size 3 1 (.slice ro' rn rc') rn (ints r)):=hhd
          have hlo2:=HPK.out.lo
          clear hhd
          go_wp2_with (first | (at_builtin; refine wpList_append_own_at _ rfl _ _ 22 rfl w.heap.size 3 i3 (.int .i64 0) 1 8 Tryz.underlying22 hi3 hz30 hz31 hz32 rfl (by decide) _ _ _ rfl (HHD.out.alloc _) ⟨wr.heap.size,0,none⟩ 1 1 [.int .i64 f] rfl rfl (one_new _ _ _) (one_int _) ?p3 ?p4 ?p5 ?_))
          case p3=>unfold maxLen; omega
          case p4=>omega
          case p5=>first | exact hlo2 | omega | (simp; omega)
          intro v1 w4 ho4 hg4 _ hb4
          obtain ⟨s1,s2,s3,s4,s5⟩:=HPK.out.step1 (f:=f) (by rw [HRN.out]; exact ho4) hg4 (by first | exact hb4 | (rw [size_alloc]; exact hb4))
          obtain ⟨vo1,vc1,hv1⟩:=owns_form ho4
          subst hv1
          rw [HDL.out] at s1
          have S1:Hid (w4.ownsRow w.heap.size 22 1 (.slice ao ol ac) ol vsD):=s1
          have S2:Hid (w4.ownsRow w.heap.size 22 1 (.slice (some ⟨cb,cof,none⟩) c.length cc) us.length us):=s2
          have S3:Hid (RwD w.heap.size w4 (vsD ++ .slice vo1 (rn+1) vc1 :: us.drop (k2+1)) ((m ++ (c.take k2).map fun c=>c ++ [f]) ++ (r ++ [f]) :: c.drop (k2+1))):=s3
          have S4:Hid (Below w.heap.size w w4):=s4
          have hlo4:=s5
          clear s1 s2 s3 s4 s5 ho4 hg4 hb4
          go_wp2_with (first | (at_builtin; refine wpList_append_own_at _ rfl _ _ 24 rfl w.heap.size 22 i0 (.slice none 0 0) 1 24 Tryz.underlying24 hi hz0 hz1 hz2 rfl (by decide) _ _ _ rfl (S1.out.alloc _) ⟨w4.heap.size,0,none⟩ 1 1 [.slice vo1 (rn+1) vc1] rfl rfl (one_new _ _ _) (one_slice _ _ _) ?r3 ?r4 ?r5 ?_))
          case r3=>unfold maxLen; omega
          case r4=>omega
          case r5=>first | exact hlo4 | omega | (simp; omega)
          intro v2 w5 ho5 hg5 _ hb5
          have hst:=PlI.step2 (W0:=w) (r':=r ++ [f]) (mR:=c.drop (k2+1)) (usR:=us.drop (k2+1)) (us:=us) HPK.out.ap HPK.out.ld (by rw [HDL.out]; exact S1.out) S2.out S3.out S4.out hlo4 (by rw [HDL.out]; exact ho5) hg5 (by first | exact hb5 | (rw [size_alloc]; exact hb5))
          obtain ⟨vo2,vc2,hv2⟩:=owns_form ho5
          subst hv2
          rw [List.append_assoc,←HTK2.out] at hst
          have R1:Hid (PlI w.heap.size w (.slice vo2 (ol+1) vc2) (vsD ++ [.slice vo1 (rn+1) vc1]) (.slice (some ⟨cb,cof,none⟩) c.length cc) us (us.drop (k2+1)) (m ++ (c.take (k2+1)).map fun c=>c ++ [f]) (c.drop (k2+1)) w5):=hst
          clear hst ho5 hg5 hb5
          go_wp2
          exact ⟨⟨k2+1,vo2,vc2,ol+1,_,by omega,by go_num,rfl,by have:=HOL.out; omega,R1.out⟩,by simp [intOf]; omega⟩
         ·have hke:k2=c.length:=by omega
          subst hke
          have hPe:=HP.out
          rw [List.take_length,List.drop_eq_nil_of_le (by rw [HUL.out]; exact Nat.le_refl _),List.drop_length] at hPe
          have hdl:(m ++ c.map fun c=>c ++ [f]).length=ol:=by rw [HOL.out]; simp
          have HFI:Hid (wr.ownsRow w.heap.size 22 1 (.slice ao m1.length ac) m1.length vsD∧RwD w.heap.size wr vsD m1∧Below w.heap.size w wr∧ol=m1.length):=by
           rw [HNX.out]
           have h1:=hPe.o
           rw [hdl] at h1 ⊢
           refine ⟨h1,?_,hPe.bel,rfl⟩
           have h2:=hPe.rw
           rw [List.append_nil,List.append_nil] at h2
           exact h2
          have hoe:=HFI.out.2.2.2
          subst hoe
          clear hPe hdl HP HOL
          go_wp2
          exact ⟨⟨i+1,ao,ac,vsD,by omega,by go_num,by rw [←HM1.out],by rw [←HM1.out]; exact HFI.out.1,by rw [←HM1.out]; exact HFI.out.2.1,HFI.out.2.2.1⟩,by simp [intOf]; omega⟩
       ·have hne:((Sa:Int) != (Sg:Int))=true:=by simp; omega
        have HNX:Hid (pulT LV order t face (i+1)=pulT LV order t face i):=by
         have e:=HSU.out
         rw [HTB.out,decide_eq_false hss] at e
         show pulT LV order t face (i+1)=pulT LV order t face i
         simpa using e
        have hbw2:=HBR.out.trans (HB2.out.mono HBR.out.size)
        have HOF:Hid (w2c.ownsRow w.heap.size 22 1 (.slice xo (pulT LV order t face (i+1)).length xc) (pulT LV order t face (i+1)).length vs∧RwD w.heap.size w2c vs (pulT LV order t face (i+1))∧Below w.heap.size w w2c):=by
         rw [HNX.out]
         exact ⟨owns_below HO.out HB2.out (Nat.le_refl _),HRD.out.below HB2.out (Nat.le_refl _),hbw2⟩
        rw [←HNX.out]
        clear hbw2 HO HRD hss
        go_wp2
        exact ⟨⟨i+1,xo,xc,vs,by omega,by go_num,rfl,HOF.out.1,HOF.out.2.1,HOF.out.2.2⟩,by simp [intOf]; omega⟩
     ·have hie:i=(LV T1).length:=by omega
      subst hie
      have HFI:Hid (wr.ownsRow w.heap.size 22 1 (.slice xo (pulD LV order (t+2) face).length xc) (pulD LV order (t+2) face).length vs∧RwD w.heap.size wr vs (pulD LV order (t+2) face)∧Below w.heap.size w wr):=by
       rw [←HAL.out]
       exact ⟨HO.out,HRD.out,HBR.out⟩
      have HPOST:Hid (PulP LV order (t+2) face w (.returned (.slice xo (pulD LV order (t+2) face).length xc)) wr):=⟨xo,xc,vs,rfl,HFI.out.1,HFI.out.2.1,HFI.out.2.2⟩
      rw [HAL.out]
      subst hlo
      clear HO HRD HFI hlt hil hml
      go_wp2
      go_ret
      exact HPOST.out)
end Go.Proofs.YtfhjjpiakffagaaGreatDoor
namespace Go.Proofs.YtfhjjpiakffagaaGreatDoor
open Go.RowKit Lin
attribute [local go_sem ↓] Go.wp_at_zero Go.wp_at_succ
theorem pulledD_any {LV:Nat→List (List Int)} {order:List Int} {n j:Nat} (h:LvO LV order n) (hn:n≤10) (lo:Option Addr) (lc:Nat) (oo:Option Addr) (oc:Nat):∀t,t≤4→t+1 < j→∀(g:List Int) (go:Option Addr) (gc:Nat) (w:World),g∈LV (t+1)→LvV w (.slice lo j lc) j LV→Sl w.heap.size 3 w (.slice oo order.length oc) (ints order)→Sl w.heap.size 3 w (.slice go g.length gc) (ints g)→Calls Tryz.prog 41 #[.slice lo j lc,.slice oo order.length oc,.slice go g.length gc,.int .i64 ((t+1:Nat):Int)] w (PulP LV order (t+1) g w)
 | 0,_,_,g,go,gc,w,hg,_,hO,hG=>pulledD_one j lo lc _ g go gc w hG (h.row 1 g hg).1 oo order.length oc rfl
 | t+1,h1,h2,g,go,gc,w,hg,hL,hO,hG=>pulledD_more h hn lo lc oo oc t (by omega) h2 (fun g go gc w=>pulledD_any h hn lo lc oo oc t (by omega) (by omega) g go gc w) g go gc w hg hL hO hG
theorem sl_offL {w:World} {v:Value} {xs:List Value} {g j:Nat} {cur:Array Value} {u:Value} (h:Sl 0 3 w v xs) (hG:w.heap[g]?=some (.cells cur 22 (0,0))):Sl 0 3 (w.setCell ⟨g,j,none⟩ u) v xs:=by
 refine h.move fun b hl ht=>⟨Below.heap_setCell _ _ _ _ (fun e=>?_),ht⟩
 rcases ht with ht | ⟨c,ht⟩
 ·omega
 ·subst e
  rw [hG] at ht
  simp at ht
def cellL (c:List Int):List Int:=memL (setN c)
set_option maxRecDepth 100000 in
set_option maxHeartbeats 3200000 in
theorem pulledBy_any {LV:Nat→List (List Int)} {order:List Int} {n d:Nat} (h:LvO LV order n) (hn:n≤10) (hd1:1≤d) (hd:d≤4) (face:List Int) (hone:LV (d+1)=[face]) (lo:Option Addr) (lc:Nat) (oo:Option Addr) (oc:Nat) (w:World) (hL:LvV w (.slice lo (d+2) lc) (d+2) LV) (hO:Sl w.heap.size 3 w (.slice oo order.length oc) (ints order)) :
  Calls Tryz.prog 19 #[.slice lo (d+2) lc,.slice oo order.length oc] w fun e w'=>∃s xo xc,e=.returned (.slice xo s.length xc)∧SAsc s∧(∀r,r∈s↔r∈(pulD LV order (d+1) face).map cellL)∧Mat 0 22 3 w' (.slice xo s.length xc) s∧Below w.heap.size w w':=by
 have hfm:face∈LV (d+1):=by rw [hone]; simp
 obtain ⟨ao2,cap2,e,hr⟩:=hL.rows
 simp only [Value.slice.injEq,true_and] at e
 obtain ⟨rfl,rfl⟩:=e
 obtain ⟨lb,lf,ro,rc,rfl,hcl,hml⟩:=hr w (d+1) (Below.refl _ _) (by omega)
 rw [hone] at hcl hml
 obtain ⟨qb,qo,qcp,q1,hqs,_,hqc,hq1⟩:=mat_cell hml (k:=0) (by simp)
 simp only [Value.slice.injEq,true_and] at hqs
 obtain ⟨rfl,rfl⟩:=hqs
 obtain ⟨go,gc,rfl,_,_⟩:=sl_open hq1
 have e0 : [face].getD 0 []=face:=rfl
 rw [e0] at hqc hq1
 have HPU:=pulledD_any h hn (some ⟨lb,lf,none⟩) lc oo oc d hd (by omega) face go gc w hfm hL hO hq1
 have HCL:Hid ((pulD LV order (d+1) face).length≤1099511627776):=Nat.le_trans (pulD_len LV order h.len d face) (pow4 hd)
 have HCM:Hid (∀c∈pulD LV order (d+1) face,∀x∈c,0≤x∧x < (10:Int)):=fun c hc x hx=>by have:=(pulD_mem h d face hfm c hc).2 x hx; omega
 unfold PulP at HPU
 generalize pulD LV order (d+1) face=cs at *
 have td:((d+2:Nat):Int)-1=((d+1:Nat):Int):=by omega
 have tdw:IntKind.wrap .i64 ((d+1:Nat):Int)=((d+1:Nat):Int):=by rw [IntKind.wrap_i64]; omega
 have tdj:((d+1:Nat):Int) < ((d+2:Nat):Int):=by omega
 obtain ⟨D1,hD1⟩:∃D1,D1=d+1:=⟨_,rfl⟩
 obtain ⟨D2,hD2⟩:∃D2,D2=d+2:=⟨_,rfl⟩
 rw [←hD2] at td tdj HPU ⊢
 rw [←hD1] at td tdw tdj HPU hcl
 generalize hgl:face.length=gl at *
 clear hq1 hml hL hO hr hone hD1 hD2
 simp only [List.length_singleton] at hcl
 have hqc':w.cell? ⟨qb,qo,none⟩=some (.slice go gl gc):=hqc
 go_enter Tryz.func19,Tryz.ntmps19
 go_wp2_with fail
 refine HPU.mono ?_
 rintro e w1 ⟨xo,xc,vs,rfl,ho,hrd,hb1⟩
 have HB1:Hid (Below w.heap.size w w1):=hb1
 have HI0:Hid (w1.ownsRow w.heap.size 22 1 (.slice xo cs.length xc) cs.length vs∧∀k,k < cs.length→Sl 0 3 w1 (vs.getD k (.slice none 0 0)) (ints (cs.getD k []))):=⟨ho,fun k hk=>hrd.sl k hk⟩
 have HME:Hid (∀X k,k < cs.length→∀v,Sl 0 3 X v (ints (cs.getD k []))→Calls Tryz.prog 42 #[v] X fun e w'=>e=.returned (.int .i64 (setN (cs.getD k []):Nat))∧w'=X):=fun X k hk v hv=>setR_any 0 _ v X hv (HCM.out _ (by simp [hk]))
 have HMB:Hid (∀X k,k < cs.length→Calls Tryz.prog 40 #[.int .i64 (setN (cs.getD k []):Nat)] X fun e w'=>∃uo uc,e=.returned (.slice uo (cellL (cs.getD k [])).length uc)∧Sl 0 3 w' (.slice uo (cellL (cs.getD k [])).length uc) (ints (cellL (cs.getD k [])))∧Below X.heap.size X w'):=fun X k hk=>by
  refine (members_any (setN (cs.getD k [])) 10 X (setN_ltn _ (HCM.out _ (by simp [hk]))) (by omega)).mono ?_
  rintro e w' ⟨u,rfl,h1,h2⟩
  obtain ⟨uo,uc,rfl⟩:=owns_form h1
  exact ⟨uo,uc,rfl,Sl.own h1,h2⟩
 have HSO:Hid (∀X,Mat 0 22 3 X (.slice xo cs.length xc) (cs.map cellL)→Below w.heap.size w X→Calls Tryz.prog 14 #[.slice xo cs.length xc] X fun e w'=>∃s yo yc,e=.returned (.slice yo s.length yc)∧(SAsc s∧(∀r,r∈s↔r∈cs.map cellL)∧Mat 0 22 3 w' (.slice yo s.length yc) s∧Below w.heap.size w w')):=fun X hM hX=>by
  refine (sortR_any 0 (cs.map cellL) _ X hM (by rw [List.length_map]; have:=HCL.out; omega) fun r hr=>?_).mono ?_
  ·obtain ⟨c,_,rfl⟩:=List.mem_map.1 hr
   exact Nat.le_trans (memTo_len _ 64) (by decide)
  ·rintro e w' ⟨x,s,rfl,hf,h1,h2,h3⟩
   have hM2:=fr_mat0F hf
   obtain ⟨yo,yc,rfl,_,_⟩:=mat_open hM2
   exact ⟨s,yo,yc,rfl,h1,h2,hM2,hX.trans (h3.mono hX.size)⟩
 have hcl2:cs.length≤1099511627776:=HCL.out
 clear hb1 ho hrd HPU hqc hqc' hcl
 go_wp2
 go_loopw [6] (fun iv wr=>∃(i:Nat) (us:List Value),i≤cs.length∧iv=.int .i64 (i:Int)∧wr.ownsRow w.heap.size 22 1 (.slice xo cs.length xc) cs.length us∧(∀k,k < i→Sl 0 3 wr (us.getD k (.slice none 0 0)) (ints (cellL (cs.getD k []))))∧(∀k,i≤k→k < cs.length→Sl 0 3 wr (us.getD k (.slice none 0 0)) (ints (cs.getD k [])))∧Below w.heap.size w wr) (fun iv _=>cs.length-(intOf iv).toNat)
 case atStart=>exact ⟨0,vs,Nat.zero_le _,rfl,HI0.out.1,fun k hk=>absurd hk (by omega),fun k _ hk=>HI0.out.2 k hk,HB1.out⟩
 case round=>
  clear HI0 HB1
  obtain ⟨i,us,hil,rfl,ho,hdn,htd,hbr⟩:=hrel
  have HO:Hid (wr.ownsRow w.heap.size 22 1 (.slice xo cs.length xc) cs.length us):=ho
  have HDN:Hid (∀k,k < i→Sl 0 3 wr (us.getD k (.slice none 0 0)) (ints (cellL (cs.getD k [])))):=hdn
  have HTD:Hid (∀k,i≤k→k < cs.length→Sl 0 3 wr (us.getD k (.slice none 0 0)) (ints (cs.getD k []))):=htd
  have HBR:Hid (Below w.heap.size w wr):=hbr
  clear ho hdn htd hbr
  by_cases hlt:i < cs.length
  ·obtain ⟨g,gcap,hxg⟩:=own_some HO.out (by omega)
   simp only [Value.slice.injEq,true_and] at hxg
   obtain ⟨rfl,rfl⟩:=hxg
   have hul:us.length=cs.length:=by have:=HO.out.1; omega
   have hcell:wr.cell? ⟨g,i,none⟩=some (us.getD i (.slice none 0 0)):=by
    rw [HO.out.cellAt i (by omega)]
    simp [show i < us.length by omega]
   obtain ⟨vo,vc,hvi,_,_⟩:=sl_open (HTD.out i (Nat.le_refl _) hlt)
   rw [hvi] at hcell
   have HSE:=HME.out wr i hlt _ (HTD.out i (Nat.le_refl _) hlt)
   rw [hvi] at HSE
   have HMI:Hid (∀X,Calls Tryz.prog 40 #[.int .i64 (setN (cs.getD i []):Nat)] X fun e w'=>∃uo uc,e=.returned (.slice uo (cellL (cs.getD i [])).length uc)∧Sl 0 3 w' (.slice uo (cellL (cs.getD i [])).length uc) (ints (cellL (cs.getD i [])))∧Below X.heap.size X w'):=fun X=>HMB.out X i hlt
   have hiI:(i:Int) < (cs.length:Int):=by omega
   generalize setN (cs.getD i [])=S at *
   generalize (cs.getD i []).length=vl at *
   go_wp2_with fail
   refine HSE.mono ?_
   rintro e w2a ⟨rfl,rfl⟩
   go_wp2_with fail
   refine (HMI.out w2a).mono ?_
   rintro e w3 ⟨uo,uc,rfl,hu3,hb3⟩
   have hO3:=owns_below HO.out hb3 (Nat.le_refl _)
   have hcell3:w3.cell? ⟨g,i,none⟩=some (us.getD i (.slice none 0 0)):=by
    rw [hO3.cellAt i (by omega)]
    simp [show i < us.length by omega]
   have hfz:=hO3.frozenAt i
   obtain ⟨cur,hcur⟩:=owns_type hO3 (g:=g) rfl
   have HN:Hid ((w3.setCell ⟨g,i,none⟩ (.slice uo (cellL (cs.getD i [])).length uc)).ownsRow w.heap.size 22 1 (.slice (some ⟨g,0,none⟩) cs.length xc) cs.length (us.set i (.slice uo (cellL (cs.getD i [])).length uc))∧(∀k,k < i+1→Sl 0 3 (w3.setCell ⟨g,i,none⟩ (.slice uo (cellL (cs.getD i [])).length uc)) ((us.set i (.slice uo (cellL (cs.getD i [])).length uc)).getD k (.slice none 0 0)) (ints (cellL (cs.getD k []))))∧(∀k,i+1≤k→k < cs.length→Sl 0 3 (w3.setCell ⟨g,i,none⟩ (.slice uo (cellL (cs.getD i [])).length uc)) ((us.set i (.slice uo (cellL (cs.getD i [])).length uc)).getD k (.slice none 0 0)) (ints (cs.getD k [])))∧Below w.heap.size w (w3.setCell ⟨g,i,none⟩ (.slice uo (cellL (cs.getD i [])).length uc))):=by
    have hgB:=(hO3.lt g rfl).1
    refine ⟨(hO3.stored i _).1,fun k hk=>?_,fun k hk1 hk2=>?_,(HBR.out.trans (hb3.mono HBR.out.size)).setCell (by exact hgB) _⟩
    ·by_cases e:k=i
     ·subst e
      have e1:(us.set k (.slice uo (cellL (cs.getD k [])).length uc)).getD k (.slice none 0 0)=.slice uo (cellL (cs.getD k [])).length uc:=by simp [show k < us.length by omega]
      rw [e1]
      exact sl_offL hu3 hcur
     ·have e1:(us.set i (.slice uo (cellL (cs.getD i [])).length uc)).getD k (.slice none 0 0)=us.getD k (.slice none 0 0):=by
       simp only [List.getD_eq_getElem?_getD]; rw [List.getElem?_set_ne (fun q=>e q.symm)]
      rw [e1]
      exact sl_offL ((HDN.out k (by omega)).below hb3 (Nat.le_refl _)) hcur
    ·have e1:(us.set i (.slice uo (cellL (cs.getD i [])).length uc)).getD k (.slice none 0 0)=us.getD k (.slice none 0 0):=by
      simp only [List.getD_eq_getElem?_getD]; rw [List.getElem?_set_ne (by omega)]
     rw [e1]
     exact sl_offL ((HTD.out k (by omega) hk2).below hb3 (Nat.le_refl _)) hcur
   clear hu3 hb3 hO3 hcur HSE HMI hvi hcell HO HDN HTD HBR
   generalize (cellL (cs.getD i [])).length=nl at *
   go_wp2
   exact ⟨⟨i+1,_,by omega,by go_num,HN.out.1,HN.out.2.1,HN.out.2.2.1,HN.out.2.2.2⟩,by simp [intOf]; omega⟩
  ·have hie:i=cs.length:=by omega
   subst hie
   have hM:Mat 0 22 3 wr (.slice xo cs.length xc) (cs.map cellL):=by
    refine ⟨us,by rw [List.length_map]; have:=HO.out.1; omega,?_,fun k hk=>?_⟩
    ·have:=Sl.own (B:=0) HO.out
     exact this
    ·rw [List.length_map] at hk
     have h1:=HDN.out k hk
     have e1:(cs.map cellL).getD k []=cellL (cs.getD k []):=by simp [hk]
     rw [e1]
     exact h1
   have HSS:=HSO.out wr hM HBR.out
   clear hM HO HDN HTD hlt
   go_wp2_with fail
   refine HSS.mono ?_
   rintro e w5 ⟨s,yo,yc,rfl,h5⟩
   have H5:Hid (SAsc s∧(∀r,r∈s↔r∈cs.map cellL)∧Mat 0 22 3 w5 (.slice yo s.length yc) s∧Below w.heap.size w w5):=h5
   clear h5 HSS
   generalize hsl:s.length=sl at *
   go_wp2
   go_ret
   exact ⟨s,yo,yc,by rw [hsl]; rfl,H5.out.1,H5.out.2.1,by rw [hsl]; exact H5.out.2.2.1,H5.out.2.2.2⟩
end Go.Proofs.YtfhjjpiakffagaaGreatDoor
