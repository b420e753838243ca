import Derived.Test.YtcoeneldaohpnaaGreatRun12
import Derived.Deep.Onto
import Derived.Test.YtcoeneldaohpnaaGreatMgAG
import Derived.Test.YtcoeneldaohpnaaGreatMgAA
import Derived.Maps.AppendAt
namespace Go.Proofs.YtcoeneldaohpnaaGreat
open Go.RowKit
theorem owns_row {B b n:Nat} {e:TypeId} {w:World} {f:Nat→Value} {xs:List Value} (h:w.rowIs b e n f) (hB:B≤b) (hn:xs.length=n) (hm:n≤maxLen) (hx:∀i,i < n→xs[i]?=some (f i)) :
  w.ownsRow B e 1 (.slice (some ⟨b,0,none⟩) n n) n xs:=by
 obtain ⟨c,h1,h2,h3⟩:=h
 refine ⟨by omega,Or.inr ⟨b,n,c,rfl,hB,h1,Nat.le_refl _,hm,by omega,?_⟩⟩
 apply List.ext_getElem?
 intro i
 by_cases hi:i < n
 ·rw [List.getElem?_take_of_lt (by omega),hx i hi,Array.getElem?_toList]; exact h3 i hi
 ·rw [List.getElem?_eq_none (by simp; omega),List.getElem?_eq_none (by omega)]
set_option maxRecDepth 100000 in
set_option maxHeartbeats 800000 in
theorem mappedP_own (B:Nat) (l:List Int) (v:Value) (w:World) (hv:Sl B 3 w v (ints l)) (hl:l.length≤1000000) (g:Nat) (d:Int) (hg:g < w.heap.size) (hd:1≤d) (hb:∀z∈l,z.natAbs≤4611686018427387904) (hc:w.cell? ⟨g,0,none⟩=some (.int .i64 d)) :
  Calls Tryz.prog 103 #[v,.func (.func 104) #[] #[.pointer (some ⟨g,0,none⟩)]] w fun e w'=>∃u,e=.returned u∧w'.ownsRow w.heap.size 3 1 u l.length (ints (l.map (fun z=>z.tdiv d)))∧Below w.heap.size w w':=by
 obtain ⟨ao,cap,hvv,hlc,hcm⟩:=sl_open hv
 subst hvv
 have HV:Hid (Sl B 3 w (.slice ao l.length cap) (ints l)):=hv
 have HBD:Hid (∀z∈l,z.natAbs≤4611686018427387904):=hb
 have HC:Hid (w.cell? ⟨g,0,none⟩=some (.int .i64 d)):=hc
 clear hb hc
 clear hv
 have hmk:=run_make_row' (P:=Tryz.prog) 26 3 (.int .i64 0) 8 Tryz.underlying26 Tryz.info3 rfl .i64 .i64 l.length (by omega) (by omega)
 go_enter Tryz.func103,Tryz.ntmps103
 go_wp2
 go_loopw [13] (fun i wr=>∃k:Nat,k≤l.length∧i=.int .i64 k∧wr.rowIs w.heap.size 3 l.length (fun j=>.int .i64 (if j < k then (l.map (fun z=>z.tdiv d)).getD j 0 else 0))∧Below w.heap.size w wr) (fun i _=>l.length-(intOf i).toNat)
 case atStart=>
  refine ⟨0,Nat.zero_le _,rfl,?_,(Below.refl _ _).alloc (Nat.le_refl _) _⟩
  exact (World.rowIs_made w (.int .i64 0) l.length 3).congr fun i hi=>by simp
 case round=>
  obtain ⟨k,hk,rfl,hrow,hbel⟩:=hrel
  have HR:Hid (wr.rowIs w.heap.size 3 l.length (fun j=>.int .i64 (if j < k then (l.map (fun z=>z.tdiv d)).getD j 0 else 0))):=hrow
  have HB:Hid (Below w.heap.size w wr):=hbel
  by_cases hlt:k < l.length
  ·obtain ⟨b,o,cp,hs,hc1,hcc⟩:=sl_cell (HV.out.below hbel (Nat.le_refl _)) hlt
   simp only [Value.slice.injEq] at hs
   obtain ⟨rfl,_,rfl⟩:=hs
   have hfz:=hrow.frozen k
   have hcl:=hrow.cell (i:=k) hlt
   have HF:Hid ((l.map (fun z=>z.tdiv d)).getD k 0=(fun z=>z.tdiv d) (l.getD k 0)):=by show _=_; simp [hlt]
   have hmem:l.getD k 0∈l:=by simp [hlt]
   have HMEM:Hid (l.getD k 0∈l):=hmem
   generalize hxk:l.getD k 0=x at *
   clear hrow hbel hmem hxk
   go_wp2_with fail
   refine (prim1_any x d wr ⟨g,0,none⟩ hd (HBD.out x HMEM.out) ((HB.out.cell hg).trans HC.out)).mono ?_
   rintro e w' ⟨rfl,rfl⟩
   go_wp2
   go_roundw
   case rel=>
    refine ⟨k+1,by omega,by go_num,?_,HB.out.setCell (Nat.le_refl _) _⟩
    refine (HR.out.set k _).congr fun j hj=>?_
    by_cases e1:j=k
    ·subst e1; rw [if_pos rfl,if_pos (by omega),HF.out]
    ·by_cases e2:j < k
     ·rw [if_neg e1,if_pos e2,if_pos (by omega)]
     ·rw [if_neg e1,if_neg e2,if_neg (by omega)]
   case measure=>simp [intOf]; omega
  ·clear hrow hbel
   go_wp2
   go_ret
   refine ⟨_,rfl,?_,HB.out⟩
   refine owns_row HR.out (Nat.le_refl _) (by simp) (by unfold maxLen; omega) fun i hi=>?_
   rw [ints_get _ _ (by simpa using hi),if_pos (by omega)]
set_option maxRecDepth 100000 in
set_option maxHeartbeats 400000 in
theorem primitive_own (B:Nat) (l:List Int) (v:Value) (w:World) (hv:Sl B 3 w v (ints l)) (hl:l.length≤1000000) (hb:∀z∈l,z.natAbs≤4611686018427387904) :
  Calls Tryz.prog 88 #[v] w fun e w'=>∃u,e=.returned u∧w'.ownsRow w.heap.size 3 1 u l.length (ints (Lin.low l))∧Below w.heap.size w w':=by
 obtain ⟨ao,cap,hvv,hlc,hcm⟩:=sl_open hv
 subst hvv
 have HV:Hid (Sl B 3 w (.slice ao l.length cap) (ints l)):=hv
 have HBD:Hid (∀z∈l,z.natAbs≤4611686018427387904):=hb
 clear hv hb
 go_enter Tryz.func88,Tryz.ntmps88
 go_wp2_with fail
 refine (divisor_any B l _ w HV.out HBD.out).mono ?_
 rintro e w1 ⟨rfl,n1,hw1⟩
 have HV1:Hid (Sl B 3 w1 (.slice ao l.length cap) (ints l)):=by rw [hw1]; exact HV.out.drewN n1
 have HB1:Hid (Below w.heap.size w w1):=by rw [hw1]; exact ⟨rfl,rfl,rfl,Nat.le_refl _,fun _ _=>rfl⟩
 have hs1:w.heap.size=w1.heap.size:=by rw [hw1]; rfl
 have HS1:Hid (w.heap.size=w1.heap.size):=hs1
 clear hw1 hs1
 obtain ⟨g,hg⟩:∃g,g=Lin.gc l:=⟨_,rfl⟩
 have HG:Hid (g=Lin.gc l):=hg
 rw [←hg]
 have hgb:g≤4611686018427387904:=by rw [hg]; exact gc_le HBD.out
 clear hg
 have HBA:Hid (Below w.heap.size w (w1.alloc (.cells #[.int .i64 g] 3))):=HB1.out.alloc (by rw [HS1.out]; exact Nat.le_refl _) _
 by_cases h0:g=0
 ·have hgb0:((g:Int) == 0)=true:=by simp [h0]
  have HLZ:Hid (Lin.low l=l):=low_zero (by rw [←HG.out]; exact h0)
  clear h0
  go_wp2_with fail
  refine (clone_any B l _ _ (HV1.out.alloc _) hl).mono ?_
  rintro e w2 ⟨u,rfl,ho,hb2⟩
  have HO:Hid (w2.ownsRow w.heap.size 3 1 u l.length (ints (Lin.low l))):=by rw [HLZ.out]; exact ho.mono HBA.out.size
  have HB2:Hid (Below w.heap.size w w2):=HBA.out.trans (hb2.mono HBA.out.size)
  clear ho hb2
  go_wp2
  go_ret
  exact ⟨_,rfl,HO.out,HB2.out⟩
 ·have hgb0:((g:Int) == 0)=false:=by rw [beq_eq_false_iff_ne]; omega
  have HLP:Hid ((l.map fun z=>z.tdiv (g:Int))=Lin.low l):=by show _=_; rw [HG.out]; exact low_prog (by rw [←HG.out]; omega)
  have hg1:(1:Int)≤(g:Int):=by omega
  clear h0
  go_wp2_with fail
  refine (mappedP_own B l _ _ (HV1.out.alloc _) hl w1.heap.size g (by simp) hg1 HBD.out (by simp)).mono ?_
  rintro e w2 ⟨u,rfl,ho,hb2⟩
  have HO:Hid (w2.ownsRow w.heap.size 3 1 u l.length (ints (Lin.low l))):=by rw [←HLP.out]; exact ho.mono HBA.out.size
  have HB2:Hid (Below w.heap.size w w2):=HBA.out.trans (hb2.mono HBA.out.size)
  clear ho hb2
  go_wp2
  go_ret
  exact ⟨_,rfl,HO.out,HB2.out⟩
end Go.Proofs.YtcoeneldaohpnaaGreat

namespace Go.Proofs.YtcoeneldaohpnaaGreat
open Go.RowKit Lin
attribute [local go_sem ↓] Go.wp_at_zero Go.wp_at_succ
theorem low_len (l:List Int):(low l).length=l.length:=by simp [low]
theorem upr_len (l:List Int):(upr l).length=l.length:=by unfold upr; split <;> simp
def Rwo (B:Nat) (w:World) (v:Value) (m:List (List Int)):Prop:=
 ∃vs,vs.length=m.length∧w.ownsRow B 26 1 v m.length vs∧∀i,i < m.length→w.ownsRow B 3 1 (vs.getD i (.slice none 0 0)) (m.getD i []).length (ints (m.getD i []))
theorem Rwo.nil (B:Nat) (w:World):Rwo B w (.slice none 0 0) []:=⟨[],rfl,World.ownsRow_nil _ _ _ _,fun i hi=>absurd hi (by simp)⟩
theorem Rwo.below {B N:Nat} {w w':World} {v:Value} {m:List (List Int)} (h:Rwo B w v m) (hb:Below N w w') (hN:w.heap.size≤N):Rwo B w' v m:=by
 obtain ⟨vs,h1,h2,h3⟩:=h
 exact ⟨vs,h1,owns_below h2 hb hN,fun i hi=>owns_below (h3 i hi) hb hN⟩
theorem Rwo.low {B B':Nat} {w:World} {v:Value} {m:List (List Int)} (h:Rwo B w v m) (hB:B'≤B):Rwo B' w v m:=by
 obtain ⟨vs,h1,h2,h3⟩:=h
 exact ⟨vs,h1,owns_lowK h2 hB,fun i hi=>owns_lowK (h3 i hi) hB⟩
theorem own_grownK {B n n2:Nat} {w w':World} {v u:Value} {xs ys:List Value} (h:w.ownsRow B 26 1 v n xs) (hu:w.ownsRow B 3 1 u n2 ys) (hg:w.grownBy w' v.ownBlock):w'.ownsRow B 3 1 u n2 ys:=by
 refine ⟨hu.1,?_⟩
 rcases hu.2 with q | ⟨b,cap,cur,rfl,r1,r2,r3⟩
 ·exact Or.inl q
 ·refine Or.inr ⟨b,cap,cur,rfl,r1,?_,r3⟩
  rw [hg.block b (lt_of_block r2) (fun e=>?_)]
  ·exact r2
  ·rcases h.2 with ⟨f1,_⟩ | ⟨b',cap',cur',f1,s1,s2,_⟩
   ·rw [f1] at e; simp [Value.ownBlock] at e
   ·rw [f1] at e
    simp [Value.ownBlock] at e
    subst e
    rw [r2] at s2; simp at s2
theorem Rwo.push {B:Nat} {w w':World} {v v' u:Value} {m:List (List Int)} {vs:List Value} {zs:List Int} (h1:vs.length=m.length) (h2:w.ownsRow B 26 1 v m.length vs)
  (h3:∀i,i < m.length→w.ownsRow B 3 1 (vs.getD i (.slice none 0 0)) (m.getD i []).length (ints (m.getD i []))) (hu:w.ownsRow B 3 1 u zs.length (ints zs))
  (ho:w'.ownsRow B 26 1 v' (m.length+1) (vs ++ [u])) (hg:w.grownBy w' v.ownBlock):Rwo B w' v' (m ++ [zs]):=by
 refine ⟨vs ++ [u],by simp [h1],by simpa using ho,fun i hi=>?_⟩
 by_cases hlt:i < m.length
 ·have e1':(vs ++ [u]).getD i (.slice none 0 0)=vs.getD i (.slice none 0 0):=by
   simp only [List.getD_eq_getElem?_getD]; rw [List.getElem?_append_left (by omega)]
  have e2':(m ++ [zs]).getD i []=m.getD i []:=by
   simp only [List.getD_eq_getElem?_getD]; rw [List.getElem?_append_left (by omega)]
  rw [e1',e2']
  exact own_grownK h2 (h3 i hlt) hg
 ·have hi':i=m.length:=by simp at hi; omega
  subst hi'
  have e1':(vs ++ [u]).getD m.length (.slice none 0 0)=u:=by
   rw [←h1]; simp
  have e2':(m ++ [zs]).getD m.length []=zs:=by simp
  rw [e1',e2']
  exact own_grownK h2 hu hg
end Go.Proofs.YtcoeneldaohpnaaGreat

namespace Go.Proofs.YtcoeneldaohpnaaGreat
open Go.RowKit
attribute [local go_sem ↓] Go.wp_at_zero Go.wp_at_succ
def rowT (t P:List (List Int)):Option (List Int):=
 if normB t.length (diffL t)=true then
  if (P.any fun x=>decide (dotL (normL t.length (diffL t)) (t.getD 0 []) < dotL (normL t.length (diffL t)) x))=false then some (normL t.length (diffL t) ++ [dotL (normL t.length (diffL t)) (t.getD 0 [])])
  else if (P.any fun x=>decide (dotL (normL t.length (diffL t)) x < dotL (normL t.length (diffL t)) (t.getD 0 [])))=false then some ((normL t.length (diffL t) ++ [dotL (normL t.length (diffL t)) (t.getD 0 [])]).map fun z=>-z)
  else none
 else none
theorem getD_mem {l:List Int} {i:Nat} (h:i < l.length):l.getD i 0∈l:=by simp [h]
theorem diff_mx {d:Nat} {t:List (List Int)} (h:Box d 100 t) (h1:1≤d) (h5:d≤5):Mx d 200 (diffL t):=by
 refine ⟨fun r hr=>?_,fun r hr z hz=>?_,h5,h1,by decide,Nat.le_trans (fb_mono (by decide) h5) (by decide)⟩
 ·simp only [diffL,List.mem_map] at hr
  obtain ⟨x,hx,rfl⟩:=hr
  rw [subL_length]; exact (h x (List.mem_of_mem_drop hx)).1
 ·simp only [diffL,List.mem_map] at hr
  obtain ⟨x,hx,rfl⟩:=hr
  simp only [subL,List.mem_map,List.mem_range] at hz
  obtain ⟨i,hi,rfl⟩:=hz
  have h1:=(h x (List.mem_of_mem_drop hx)).2 (x.getD i 0) (by simp [hi])
  have h2 : -(100:Int)≤(t.getD 0 []).getD i 0∧(t.getD 0 []).getD i 0≤100:=by
   by_cases ht:0 < t.length
   ·have h3:=h (t.getD 0 []) (by simp [ht])
    by_cases hi2:i < (t.getD 0 []).length
    ·exact h3.2 _ (getD_mem hi2)
    ·rw [show (t.getD 0 []).getD i 0=0 by simp only [List.getD_eq_getElem?_getD]; rw [List.getElem?_eq_none (by simpa using hi2)]; rfl]; omega
   ·have:t=[]:=List.eq_nil_of_length_eq_zero (by omega)
    subst this; simp
  omega
theorem muL_len (c:Nat) (rows:List (List Int)):(muL c rows).length=c:=by simp [muL]
theorem norm_len {c:Nat} {m:List (List Int)} (h:normB c m=true):(normL c m).length=c:=by
 unfold normB at h
 unfold normL
 rw [if_pos (of_decide_eq_true h),upr_len,low_len,muL_len]
theorem upr_bd {l:List Int} {b:Nat} (h:∀z∈l,z.natAbs≤b):∀z∈Lin.upr l,z.natAbs≤b:=by
 intro z hz
 unfold Lin.upr at hz
 split at hz
 ·simp only [List.mem_map] at hz
  obtain ⟨y,hy,rfl⟩:=hz
  rw [Int.natAbs_neg]; exact h y hy
 ·exact h z hz
theorem mu_small {c:Nat} {m:List (List Int)} (hx:Mx c 200 m) (hl:(pickL c m).length+1=c):∀z∈muL c (pickL c m),z.natAbs≤1000000000000:=by
 intro z hz
 simp only [muL,List.mem_map,List.mem_range] at hz
 obtain ⟨k,hk,rfl⟩:=hz
 unfold Lin.mu
 rw [Int.natAbs_mul]
 have h2:(Lin.ngo k).natAbs=1:=by rw [ngo_mod]; by_cases e:k % 2=1 <;> simp [e]
 rw [h2,Nat.one_mul,fm_length]
 have h5:Lin.fb 200 4≤1000000000000:=by decide
 have m2:Lin.fb 200 (pickL c m).length≤Lin.fb 200 4:=fb_mono (by decide) (by have:=hx.c5; omega)
 have hb:=Lin.od_bd (n:=(pickL c m).length) (B:=200) (Lin.cols (fm (pickL c m)) (Lin.skp k)) (fun _=>false) (fun r hr j hj=>by
  simp only [Lin.cols,fm,List.mem_map] at hr
  obtain ⟨_,⟨l,hl',rfl⟩,rfl⟩:=hr
  by_cases hi:Lin.skp k j < l.length
  ·exact hx.bd l (pickL_mem hl') _ (by simp [hi])
  ·simp only [List.getD_eq_getElem?_getD]; rw [List.getElem?_eq_none (by omega)]; simp) (by rw [Lin.cu_none]; simp [Lin.cols,fm])
 have hl2:(Lin.cols (fm (pickL c m)) (Lin.skp k)).length=(pickL c m).length:=by simp [Lin.cols,fm]
 rw [hl2] at hb
 omega
theorem norm_bd {c:Nat} {m:List (List Int)} (hx:Mx c 200 m):∀z∈normL c m,z.natAbs≤1000000000000:=by
 intro z hz
 unfold normL at hz
 split at hz
 ·rename_i hl
  exact upr_bd (low_bd (mu_small hx hl)) z hz
 ·simp at hz
theorem box_small {d:Nat} {P:List (List Int)} (h:Box d 100 P) {x:List Int} (hx:x∈P):∀z∈x,z.natAbs≤1000:=fun z hz=>by
 have:=(h x hx).2 z hz; omega
end Go.Proofs.YtcoeneldaohpnaaGreat

namespace Go.Proofs.YtcoeneldaohpnaaGreat
open Go.RowKit
attribute [local go_sem ↓] Go.wp_at_zero Go.wp_at_succ
theorem set_one {w:World} {b:Nat} {x u:Value} {t:TypeId} (h:w.heap[b]?=some (.cells #[x] t (0,0))):(w.setCell ⟨b,0,none⟩ u).heap[b]?=some (.cells #[u] t (0,0)):=by
 simp [World.setCell,Array.getElem?_modify,h]
theorem owns_set {B R n j:Nat} {e:TypeId} {w:World} {v u:Value} {xs:List Value} (h:w.ownsRow B e 1 v n xs) (hR:R < B):(w.setCell ⟨R,j,none⟩ u).ownsRow B e 1 v n xs:=by
 refine ⟨h.1,?_⟩
 rcases h.2 with h2 | ⟨k,cap,cur,rfl,hb,hh,r⟩
 ·exact Or.inl h2
 ·exact Or.inr ⟨k,cap,cur,rfl,hb,(Below.heap_setCell w _ u k (by show k≠R; omega)).trans hh,r⟩
end Go.Proofs.YtcoeneldaohpnaaGreat

namespace Go.Proofs.YtcoeneldaohpnaaGreat
open Go.RowKit
theorem Fr.mono {B B':Nat} {w:World} {v:Value} {m:List (List Int)} (h:Fr B 26 3 w v m) (hB:B'≤B):Fr B' 26 3 w v m:=by
 obtain ⟨vs,h1,h2,h3⟩:=h
 exact ⟨vs,h1,h2.mono hB,h3⟩
end Go.Proofs.YtcoeneldaohpnaaGreat
