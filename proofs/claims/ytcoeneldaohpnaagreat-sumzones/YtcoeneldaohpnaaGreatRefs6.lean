import Derived.Test.YtcoeneldaohpnaaGreatRefs5
namespace Go.Proofs.YtcoeneldaohpnaaGreat
open Go.RowKit
attribute [local go_sem ↓] Go.wp_at_zero Go.wp_at_succ
def pickL (c:Nat) (m:List (List Int)):List (List Int):=m.foldl (fun h r=>if freeL c (h ++ [r]) then h ++ [r] else h) []
theorem pickL_snoc (c:Nat) (m:List (List Int)) (k:Nat) (hk:k < m.length) :
  pickL c (m.take (k+1))=if freeL c (pickL c (m.take k) ++ [m.getD k []]) then pickL c (m.take k) ++ [m.getD k []] else pickL c (m.take k):=by
 rw [List.take_succ_eq_append_getElem hk]; unfold pickL; rw [List.foldl_append]; simp [hk]
theorem pickL_mem {c:Nat} {m:List (List Int)} {r:List Int} (h:r∈pickL c m):r∈m:=by
 have:∀(m h:List (List Int)) (r:List Int),r∈m.foldl (fun h r=>if freeL c (h ++ [r]) then h ++ [r] else h) h→r∈h∨r∈m:=by
  intro m
  induction m with
  | nil=>intro h r hr; exact Or.inl hr
  | cons x m ih=>
   intro h r hr
   rcases ih _ _ hr with h1 | h1
   ·have h1:r∈(if freeL c (h ++ [x])=true then h ++ [x] else h):=h1
    by_cases hf:freeL c (h ++ [x])=true
    ·rw [if_pos hf] at h1
     rcases List.mem_append.1 h1 with h2 | h2
     ·exact Or.inl h2
     ·simp at h2; exact Or.inr (by simp [h2])
    ·rw [if_neg hf] at h1; exact Or.inl h1
   ·exact Or.inr (by simp [h1])
 rcases this m [] r h with h | h
 ·simp at h
 ·exact h
theorem pickL_len (c:Nat) (m:List (List Int)):(pickL c m).length≤m.length:=by
 have:∀(m h:List (List Int)),(m.foldl (fun h r=>if freeL c (h ++ [r]) then h ++ [r] else h) h).length≤h.length+m.length:=by
  intro m
  induction m with
  | nil=>intro h; simp
  | cons x m ih=>
   intro h
   have:=ih (if freeL c (h ++ [x]) then h ++ [x] else h)
   simp only [List.foldl_cons,List.length_cons]
   by_cases hf:freeL c (h ++ [x])=true
   ·rw [if_pos hf] at this ⊢; simp at this; omega
   ·rw [if_neg hf] at this ⊢; omega
 have:=this m []
 simpa [pickL] using this
theorem fm_append (a b:List (List Int)):fm (a ++ b)=fm a ++ fm b:=by simp [fm]
theorem pick_greedy (c:Nat) (m:List (List Int)):Lin.Greedy c (fm m) (fm (pickL c m)):=by
 have:∀(m h l:List (List Int)),Lin.Greedy c (fm l) (fm h)→Lin.Greedy c (fm (l ++ m)) (fm (m.foldl (fun h r=>if freeL c (h ++ [r]) then h ++ [r] else h) h)):=by
  intro m
  induction m with
  | nil=>intro h l hg; simpa using hg
  | cons x m ih=>
   intro h l hg
   have e:l ++ x :: m=(l ++ [x]) ++ m:=by simp
   rw [e,List.foldl_cons]
   apply ih
   by_cases hf:freeL c (h ++ [x])=true
   ·rw [if_pos hf,fm_append,fm_append]
    exact hg.more (by have:=freeL_iff.1 hf; rwa [fm_append] at this)
   ·rw [if_neg hf,fm_append]
    refine hg.less fun hp=>hf (freeL_iff.2 ?_)
    rw [fm_append]; exact hp
 exact this m [] [] (Lin.Greedy.nil c)
theorem Mx.sub {c Bd:Nat} {m l:List (List Int)} (h:Mx c Bd m) (hs:∀r∈l,r∈m):Mx c Bd l:=
 ⟨fun r hr=>h.row r (hs r hr),fun r hr=>h.bd r (hs r hr),h.c5,h.c1,h.pos,h.small⟩
theorem emp_own (w:World) (M:Nat) (hM:M≤w.heap.size):(w.alloc (.cells #[] 26)).ownsRow M 26 1 (.slice (some ⟨w.heap.size,0,none⟩) 0 0) 0 []:=
 World.ownsRow_made w #[] 0 hM (by simp [maxLen]) (by simp)
theorem cells1 {B:Nat} {e:TypeId} {w:World} {a:Addr} {n cap:Nat} {xs:List Value} (h:Sl B e w (.slice (some a) n cap) xs) (o:Obj):∀j u,xs[j]?=some u→(w.alloc o).cell? (a.add j)=some u:=sl_cells h o
theorem cells2 {B:Nat} {e:TypeId} {w:World} {a:Addr} {n cap:Nat} {xs:List Value} (h:Sl B e w (.slice (some a) n cap) xs) (o o2:Obj):∀j u,xs[j]?=some u→((w.alloc o).alloc o2).cell? (a.add j)=some u:=sl_cells (h.alloc o) o2
theorem cells_one {B n:Nat} {w:World} {h:List (List Int)} {vs:List Value} (h1:vs.length=n) (h3:∀i,i < n→Sl B 3 w (vs.getD i (.slice none 0 0)) (ints (h.getD i []))):∀u∈vs,u.oneCell'=true:=by
 intro u hu
 obtain ⟨i,hi,rfl⟩:=List.mem_iff_getElem.1 hu
 obtain ⟨ao,cap,hv,_⟩:=h3 i (by omega)
 have:vs.getD i (.slice none 0 0)=vs[i]:=by simp [hi]
 rw [←this,hv]; rfl
theorem newsA {W w2:World} {v x:Value} {g:Nat} {t:TypeId} (hg:W.grownBy w2 v.ownBlock) (hW:W.heap[g]?=some (.cells #[x] t (0,0))) (hne:v.ownBlock≠some g):∀j u,[x][j]?=some u→w2.cell? ((⟨g,0,none⟩:Addr).add j)=some u:=by
 intro j u hj
 match j,hj with
 | 0,hj=>
  simp at hj; subst hj
  have h1:w2.heap[g]?=some (.cells #[x] t (0,0)):=(hg.block g (lt_of_block hW) (fun e=>hne e.symm)).trans hW
  simp [Addr.add,World.cell?,h1]
theorem newsC {W:World} {x:Value} {g:Nat} {t:TypeId} (hW:W.heap[g]?=some (.cells #[x] t (0,0))):∀j u,[x][j]?=some u→W.cell? ((⟨g,0,none⟩:Addr).add j)=some u:=by
 intro j u hj
 match j,hj with
 | 0,hj=>simp at hj; subst hj; simp [Addr.add,World.cell?,hW]
theorem grown_below {M n:Nat} {wr W w2:World} {v:Value} {xs:List Value} (hB:Below M wr W) (hM:M≤wr.heap.size) (ho:W.ownsRow M 26 1 v n xs) (hg:W.grownBy w2 v.ownBlock):Below M wr w2:=
 hB.grown hg (Nat.le_trans hM hB.size) (fun k hk=>(ho.lt k hk).1)
set_option maxRecDepth 100000 in
set_option maxHeartbeats 4000000 in
theorem picked_any (c Bd B:Nat) (m:List (List Int)) (v:Value) (w:World) (hx:Mx c Bd m) (hm:Mat B 26 3 w v m) (hml:m.length≤500) :
  Calls Tryz.prog 50 #[v] w fun e w'=>∃x,e=.returned x∧Rws w.heap.size 26 3 w' x (pickL c m)∧Below w.heap.size w w':=by
 obtain ⟨i0,hi,hz0,hz1,hz2⟩:=info_parts Tryz.info26
 obtain ⟨ao,cap,hvv,hlc,hcm⟩:=mat_open hm
 subst hvv
 have HM:Hid (Mat w.heap.size 26 3 w (.slice ao m.length cap) m):=hm.any (Nat.le_refl _)
 have HX:Hid (Mx c Bd m):=hx
 clear hm hx
 go_enter Tryz.func50,Tryz.ntmps50
 go_wp2
 go_loopw [3,4] (fun x i wr=>∃k:Nat,k≤m.length∧i=.int .i64 k∧Rws w.heap.size 26 3 wr x (pickL c (m.take k))∧Below w.heap.size w wr) (fun _ i _=>m.length-(intOf i).toNat)
 case atStart=>exact ⟨0,Nat.zero_le _,rfl,Rws.nil _ _ _ _,Below.refl _ _⟩
 case round=>
  obtain ⟨k,hk,rfl,hrw,hbel⟩:=hrel
  have HR:Hid (Rws w.heap.size 26 3 wr u3 (pickL c (m.take k))):=hrw
  have HB:Hid (Below w.heap.size w wr):=hbel
  have hsz:w.heap.size≤wr.heap.size:=hbel.size
  clear hrw hbel
  by_cases hlt:k < m.length
  ·obtain ⟨b,o,cp,r1,hs,hc1,hcc,hr1⟩:=mat_cell (HM.out.below HB.out (Nat.le_refl _)) hlt
   simp only [Value.slice.injEq] at hs
   obtain ⟨rfl,_,rfl⟩:=hs
   have HR1:Hid (Sl w.heap.size 3 wr r1 (ints (m.getD k []))):=hr1
   obtain ⟨ro,rc,hrv,hrc1,hrc2⟩:=sl_open hr1
   clear hr1
   have HSN:Hid (pickL c (m.take (k+1))=if freeL c (pickL c (m.take k) ++ [m.getD k []]) then pickL c (m.take k) ++ [m.getD k []] else pickL c (m.take k)):=pickL_snoc c m k hlt
   have HPM:Hid (Mx c Bd (pickL c (m.take k) ++ [m.getD k []])):=by
    refine HX.out.sub fun r hr=>?_
    rcases List.mem_append.1 hr with hr | hr
    ·exact List.mem_of_mem_take (pickL_mem hr)
    ·simp at hr; subst hr; simp [hlt]
   have hpl:(pickL c (m.take k)).length≤k:=by
    have:=pickL_len c (m.take k); simp at this; omega
   obtain ⟨h,hh⟩:∃h,h=pickL c (m.take k):=⟨_,rfl⟩
   obtain ⟨z,hz⟩:∃z,z=m.getD k []:=⟨_,rfl⟩
   rw [←hh] at hpl HPM HR HSN
   rw [←hz] at HPM HSN HR1 hrv
   have HH:Hid (h=pickL c (m.take k)):=hh
   clear hh hz
   generalize hln:z.length=ln at *
   clear hln
   subst hrv
   obtain ⟨vs,g1,g2,g3⟩:=HR.out
   obtain ⟨uo,uc,huv⟩:=owns_form g2
   have HG1:Hid (vs.length=h.length):=g1
   have HG2:Hid (wr.ownsRow w.heap.size 26 1 u3 h.length vs):=g2
   have HG3:Hid (∀i,i < h.length→Sl w.heap.size 3 wr (vs.getD i (.slice none 0 0)) (ints (h.getD i []))):=g3
   subst huv
   generalize hhl:h.length=hl at *
   have HHL:Hid (h.length=hl):=hhl
   have HR0:Hid (Rws w.heap.size 26 3 wr (.slice uo hl uc) h):=HR.out
   clear g1 g2 g3 HR hhl
   have hkI0:(0:Int)≤(k:Int):=by omega
   have hkI1:(k:Int) < (m.length:Int):=by omega
   -- the worlds that the orders come to
   have E1:=emp_own wr wr.heap.size (Nat.le_refl _)
   have E2:=(emp_own wr wr.heap.size (Nat.le_refl _)).alloc (.cells #[.slice ro ln rc] 26)
   have E3:((wr.alloc (.cells #[.slice ro ln rc] 26)).alloc (.cells #[] 26)).ownsRow wr.heap.size 26 1 (.slice (some ⟨wr.heap.size+1,0,none⟩) 0 0) 0 []:=by
    have:=emp_own (wr.alloc (.cells #[.slice ro ln rc] 26)) wr.heap.size (by simp)
    simpa using this
   have B1:=(Below.refl wr.heap.size wr).alloc (Nat.le_refl _) (.cells #[] 26)
   have B2:=B1.alloc (by simp) (.cells #[.slice ro ln rc] 26)
   have B3:=((Below.refl wr.heap.size wr).alloc (Nat.le_refl _) (.cells #[.slice ro ln rc] 26)).alloc (by simp) (.cells #[] 26)
   have H2:((wr.alloc (.cells #[] 26)).alloc (.cells #[.slice ro ln rc] 26)).heap[wr.heap.size+1]?=some (.cells #[.slice ro ln rc] 26 (0,0)):=by
    have:=heap_alloc_new (wr.alloc (.cells #[] 26)) (.cells #[.slice ro ln rc] 26)
    simpa using this
   have H3:((wr.alloc (.cells #[.slice ro ln rc] 26)).alloc (.cells #[] 26)).heap[wr.heap.size]?=some (.cells #[.slice ro ln rc] 26 (0,0)):=by
    rw [Below.heap_alloc _ _ _ (by simp),heap_alloc_new]
   have hbk:b < wr.heap.size:=lt_of_cell hcc
   have HSV:Hid (Sl w.heap.size 26 wr (.slice uo hl uc) vs):=Sl.own HG2.out
   -- what the region leaves,in whatever order
   have HFIN:Hid (∀(w3:World) (v3:Value),w3.ownsRow wr.heap.size 26 1 v3 (0+hl+1) ([] ++ vs ++ [.slice ro ln rc])→Below wr.heap.size wr w3→Rws w.heap.size 26 3 w3 v3 (h ++ [z])∧Below w.heap.size w w3∧Below wr.heap.size wr w3):=by
    intro w3 v3 ho hb3
    simp only [Nat.zero_add,List.nil_append] at ho
    refine ⟨⟨vs ++ [.slice ro ln rc],by simp [HG1.out,HHL.out],?_,fun i hi=>?_⟩,HB.out.trans (hb3.mono hsz),hb3⟩
    ·have e:(h ++ [z]).length=hl+1:=by simp [HHL.out]
     rw [e]
     obtain ⟨q1,q2⟩:=ho
     refine ⟨q1,?_⟩
     rcases q2 with q2 | ⟨g,cap,cur,r1,r2,r3⟩
     ·exact Or.inl q2
     ·exact Or.inr ⟨g,cap,cur,r1,by omega,r3⟩
    ·have hg1:=HG1.out
     have hhl:=HHL.out
     by_cases hil:i < hl
     ·have e1:(vs ++ [Value.slice ro ln rc]).getD i (.slice none 0 0)=vs.getD i (.slice none 0 0):=by
       simp only [List.getD_eq_getElem?_getD]; rw [List.getElem?_append_left (by omega)]
      have e2:(h ++ [z]).getD i []=h.getD i []:=by
       simp only [List.getD_eq_getElem?_getD]; rw [List.getElem?_append_left (by omega)]
      rw [e1,e2]
      exact (HG3.out i hil).below hb3 (Nat.le_refl _)
     ·have hi':i=hl:=by simp at hi; omega
      subst hi'
      have e1:(vs ++ [Value.slice ro ln rc]).getD i (.slice none 0 0)=.slice ro ln rc:=by rw [←hg1]; simp
      have e2:(h ++ [z]).getD i []=z:=by rw [←hhl]; simp
      rw [e1,e2]
      exact HR1.out.below hb3 (Nat.le_refl _)
   cases uo with
   | none=>
    obtain ⟨hl0,uc0,vs0⟩:hl=0∧uc=0∧vs=[]:=by
     have hq:=HG2.out
     obtain ⟨q1,q2⟩:=hq
     rcases q2 with ⟨q3,q4⟩ | ⟨g,_,_,q3,_⟩
     ·simp only [Value.slice.injEq] at q3
      exact ⟨q4,q3.2.2,List.eq_nil_of_length_eq_zero (by rw [q1,q4])⟩
     ·simp at q3
    subst hl0 uc0 vs0
    go_wp2
    go_region_held3 (fun w'=>w'.cell? ⟨b,o+k,none⟩=some (.slice ro ln rc)) (first | go_keep | exact KS2.out)
     ((first | (refine step_append_none (o:={ dst:=some 14,op:=_,type:=_,pos:=_,after:=_,guard:=_ }) (by rfl) (.tmp 12) (.tmp 13) 22 (by rfl) wr.heap.size 26 i0 1 Tryz.underlying22 hi _ 0 [] (by rfl) (by first | exact E1 | exact E2 | exact E3) (by rfl) ?_) | (refine step_append_own (o:={ dst:=some 20,op:=_,type:=_,pos:=_,after:=_,guard:=_ }) (by rfl) (.tmp 14) (.tmp 19) 22 (by rfl) wr.heap.size 26 i0 (.slice none 0 0) 1 24 Tryz.underlying22 hi hz0 hz1 hz2 rfl (by decide) _ 0 [] (by rfl) (by first | exact E2 | exact E3) _ 1 1 [.slice ro ln rc] (by rfl) rfl (by first | exact newsC H2 | exact newsC H3) (one_slice _ _ _) (by unfold maxLen; omega) (by omega) (by simp <;> omega) ?_; intro v3 w3 ho3 hg3; have FF:=HFIN.out w3 v3 ho3 (by first | exact grown_below B2.drew (Nat.le_refl _) E2.drew hg3 | exact grown_below B3.drew (Nat.le_refl _) E3.drew hg3); have KS2:Hid (w3.cell? ⟨b,o+k,none⟩=some (.slice ro ln rc)):=(FF.2.2.cell hbk).trans hcc)))
    all_goals
     have HF1:Hid (Rws w.heap.size 26 3 w3 v3 (h ++ [z])):=FF.1
     have HF2:Hid (Below w.heap.size w w3):=FF.2.1
     have HF3:Hid (Below wr.heap.size wr w3):=FF.2.2
     clear FF KS2 ho3 hg3 E1 E2 E3 B1 B2 B3 H2 H3
     go_wp2_with fail
     refine (free_any c Bd w.heap.size (h ++ [z]) v3 w3 HPM.out (HF1.out.mat (Nat.le_refl _)) (by rw [List.length_append,HHL.out,List.length_singleton]; omega)).mono ?_
     rintro e w4 ⟨rfl,hb4⟩
     have HB4:Hid (Below w.heap.size w w4):=HF2.out.trans (hb4.mono HF2.out.size)
     have HF4:Hid (Rws w.heap.size 26 3 w4 v3 (h ++ [z])):=HF1.out.below hb4 (Nat.le_refl _)
     have HR4:Hid (Rws w.heap.size 26 3 w4 (.slice none 0 0) h):=(HR0.out.below HF3.out (Nat.le_refl _)).below hb4 (Nat.le_refl _)
     clear hb4 HF1 HF2 HF3
     cases hf:freeL c (h ++ [z])
     ·have HSF:Hid (pickL c (m.take (k+1))=h):=by show _=_; have:=HSN.out; rw [hf] at this; simpa using this
      clear hf
      go_wp2
      go_roundw
      case rel=>exact ⟨k+1,by omega,by go_num,by rw [HSF.out]; exact HR4.out,HB4.out⟩
      case measure=>simp [intOf]; omega
     ·have HSF:Hid (pickL c (m.take (k+1))=h ++ [z]):=by show _=_; have:=HSN.out; rw [hf] at this; simpa using this
      clear hf
      go_wp2
      go_roundw
      case rel=>exact ⟨k+1,by omega,by go_num,by rw [HSF.out]; exact HF4.out,HB4.out⟩
      case measure=>simp [intOf]; omega
   | some ua=>
    go_wp2
    go_region_held3 (fun w'=>w'.cell? ⟨b,o+k,none⟩=some (.slice ro ln rc)) (first | go_keep | exact KS1.out | exact KS2.out)
     ((first | (refine step_append_own (o:={ dst:=some 14,op:=_,type:=_,pos:=_,after:=_,guard:=_ }) (by rfl) (.tmp 12) (.tmp 13) 22 (by rfl) wr.heap.size 26 i0 (.slice none 0 0) 1 24 Tryz.underlying22 hi hz0 hz1 hz2 rfl (by decide) _ 0 [] (by rfl) (by first | exact E1 | exact E2 | exact E3) ua hl uc vs (by rfl) (by simp [HG1.out]) (by first | exact cells1 HSV.out _ | exact cells2 HSV.out _ _) (cells_one HG1.out HG3.out) (by unfold maxLen; omega) (by omega) (by simp <;> omega) ?_; intro v1 w2 ho1 hg1; have BB:Hid (Below wr.heap.size wr w2):=(by first | exact grown_below B1.drew (Nat.le_refl _) E1.drew hg1 | exact grown_below B2.drew (Nat.le_refl _) E2.drew hg1 | exact grown_below B3.drew (Nat.le_refl _) E3.drew hg1); have KS1:Hid (w2.cell? ⟨b,o+k,none⟩=some (.slice ro ln rc)):=(BB.out.cell hbk).trans hcc) | (refine step_append_own (o:={ dst:=some 20,op:=_,type:=_,pos:=_,after:=_,guard:=_ }) (by rfl) (.tmp 14) (.tmp 19) 22 (by rfl) wr.heap.size 26 i0 (.slice none 0 0) 1 24 Tryz.underlying22 hi hz0 hz1 hz2 rfl (by decide) _ (0+hl) ([] ++ vs) (by rfl) (by first | exact ho1 | exact ho1.alloc _) _ 1 1 [.slice ro ln rc] (by rfl) rfl (by first | exact one_new _ _ _ | exact newsA hg1 (W:=World.drew _) H2 (by show (some wr.heap.size:Option Nat)≠some (wr.heap.size+1); simp) | exact newsA hg1 (W:=World.drew _) H3 (by show (some (wr.heap.size+1):Option Nat)≠some wr.heap.size; simp)) (one_slice _ _ _) (by unfold maxLen; omega) (by omega) (by first | exact BB.out.size | exact Nat.le_trans BB.out.size (by simp)) ?_; intro v3 w3 ho3 hg3; have FF:=HFIN.out w3 v3 ho3 (by first | exact grown_below BB.out (Nat.le_refl _) ho1 hg3 | exact grown_below (BB.out.alloc BB.out.size _) (Nat.le_refl _) (ho1.alloc _) hg3); have KS2:Hid (w3.cell? ⟨b,o+k,none⟩=some (.slice ro ln rc)):=(FF.2.2.cell hbk).trans hcc)))
    all_goals
     have HF1:Hid (Rws w.heap.size 26 3 w3 v3 (h ++ [z])):=FF.1
     have HF2:Hid (Below w.heap.size w w3):=FF.2.1
     have HF3:Hid (Below wr.heap.size wr w3):=FF.2.2
     clear FF KS2 ho3 hg3 KS1 BB ho1 hg1 E1 E2 E3 B1 B2 B3 H2 H3
     go_wp2_with fail
     refine (free_any c Bd w.heap.size (h ++ [z]) v3 w3 HPM.out (HF1.out.mat (Nat.le_refl _)) (by rw [List.length_append,HHL.out,List.length_singleton]; omega)).mono ?_
     rintro e w4 ⟨rfl,hb4⟩
     have HB4:Hid (Below w.heap.size w w4):=HF2.out.trans (hb4.mono HF2.out.size)
     have HF4:Hid (Rws w.heap.size 26 3 w4 v3 (h ++ [z])):=HF1.out.below hb4 (Nat.le_refl _)
     have HR4:Hid (Rws w.heap.size 26 3 w4 (.slice (some ua) hl uc) h):=(HR0.out.below HF3.out (Nat.le_refl _)).below hb4 (Nat.le_refl _)
     clear hb4 HF1 HF2 HF3
     cases hf:freeL c (h ++ [z])
     ·have HSF:Hid (pickL c (m.take (k+1))=h):=by show _=_; have:=HSN.out; rw [hf] at this; simpa using this
      clear hf
      go_wp2
      go_roundw
      case rel=>exact ⟨k+1,by omega,by go_num,by rw [HSF.out]; exact HR4.out,HB4.out⟩
      case measure=>simp [intOf]; omega
     ·have HSF:Hid (pickL c (m.take (k+1))=h ++ [z]):=by show _=_; have:=HSN.out; rw [hf] at this; simpa using this
      clear hf
      go_wp2
      go_roundw
      case rel=>exact ⟨k+1,by omega,by go_num,by rw [HSF.out]; exact HF4.out,HB4.out⟩
      case measure=>simp [intOf]; omega
  ·go_wp2
   go_ret
   have h:=HR.out
   rw [List.take_of_length_le (by omega)] at h
   exact ⟨_,rfl,h,HB.out⟩
theorem freeL_cap {c:Nat} {m:List (List Int)} (h:freeL c m=true):m.length≤c:=by
 by_cases hle:c < m.length
 ·have hb0:(m.length == 0)=false:=by simp; intro h0; rw [h0] at hle; simp at hle
  have hf:freeL c m=false:=by rw [freeL,hb0,decide_eq_false (by omega)]; rfl
  rw [hf] at h
  exact absurd h (by decide)
 ·omega
theorem pickL_cap (c:Nat) (m:List (List Int)):(pickL c m).length≤c:=by
 have gen:∀(m h:List (List Int)),h.length≤c→(m.foldl (fun h r=>if freeL c (h ++ [r]) then h ++ [r] else h) h).length≤c:=by
  intro m
  induction m with
  | nil=>intro h hh; exact hh
  | cons r m ih=>
   intro h hh
   rw [List.foldl_cons]
   refine ih _ ?_
   split
   ·rename_i hf; exact freeL_cap hf
   ·exact hh
 exact gen m [] (by simp)
set_option maxRecDepth 100000 in
set_option maxHeartbeats 4000000 in
theorem rankR_any (c Bd B:Nat) (m:List (List Int)) (v:Value) (w:World) (hx:Mx c Bd m) (hm:Mat B 26 3 w v m) (hml:m.length≤16777216) :
  Calls Tryz.prog 15 #[v] w fun e w'=>e=.returned (.int .i64 ((pickL c m).length:Nat))∧Below w.heap.size w w':=by
 obtain ⟨i0,hi,hz0,hz1,hz2⟩:=info_parts Tryz.info26
 obtain ⟨ao,cap,hvv,hlc,hcm⟩:=mat_open hm
 subst hvv
 have HM:Hid (Mat w.heap.size 26 3 w (.slice ao m.length cap) m):=hm.any (Nat.le_refl _)
 have HX:Hid (Mx c Bd m):=hx
 clear hm hx
 go_enter Tryz.func15,Tryz.ntmps15
 go_wp2
 go_loopw [3,4] (fun x i wr=>∃k:Nat,k≤m.length∧i=.int .i64 k∧Rws w.heap.size 26 3 wr x (pickL c (m.take k))∧Below w.heap.size w wr) (fun _ i _=>m.length-(intOf i).toNat)
 case atStart=>exact ⟨0,Nat.zero_le _,rfl,Rws.nil _ _ _ _,Below.refl _ _⟩
 case round=>
  obtain ⟨k,hk,rfl,hrw,hbel⟩:=hrel
  have HR:Hid (Rws w.heap.size 26 3 wr u3 (pickL c (m.take k))):=hrw
  have HB:Hid (Below w.heap.size w wr):=hbel
  have hsz:w.heap.size≤wr.heap.size:=hbel.size
  clear hrw hbel
  by_cases hlt:k < m.length
  ·obtain ⟨b,o,cp,r1,hs,hc1,hcc,hr1⟩:=mat_cell (HM.out.below HB.out (Nat.le_refl _)) hlt
   simp only [Value.slice.injEq] at hs
   obtain ⟨rfl,_,rfl⟩:=hs
   have HR1:Hid (Sl w.heap.size 3 wr r1 (ints (m.getD k []))):=hr1
   obtain ⟨ro,rc,hrv,hrc1,hrc2⟩:=sl_open hr1
   clear hr1
   have HSN:Hid (pickL c (m.take (k+1))=if freeL c (pickL c (m.take k) ++ [m.getD k []]) then pickL c (m.take k) ++ [m.getD k []] else pickL c (m.take k)):=pickL_snoc c m k hlt
   have HPM:Hid (Mx c Bd (pickL c (m.take k) ++ [m.getD k []])):=by
    refine HX.out.sub fun r hr=>?_
    rcases List.mem_append.1 hr with hr | hr
    ·exact List.mem_of_mem_take (pickL_mem hr)
    ·simp at hr; subst hr; simp [hlt]
   have hpl:(pickL c (m.take k)).length≤5:=Nat.le_trans (pickL_cap c _) HX.out.c5
   obtain ⟨h,hh⟩:∃h,h=pickL c (m.take k):=⟨_,rfl⟩
   obtain ⟨z,hz⟩:∃z,z=m.getD k []:=⟨_,rfl⟩
   rw [←hh] at hpl HPM HR HSN
   rw [←hz] at HPM HSN HR1 hrv
   have HH:Hid (h=pickL c (m.take k)):=hh
   clear hh hz
   generalize hln:z.length=ln at *
   clear hln
   subst hrv
   obtain ⟨vs,g1,g2,g3⟩:=HR.out
   obtain ⟨uo,uc,huv⟩:=owns_form g2
   have HG1:Hid (vs.length=h.length):=g1
   have HG2:Hid (wr.ownsRow w.heap.size 26 1 u3 h.length vs):=g2
   have HG3:Hid (∀i,i < h.length→Sl w.heap.size 3 wr (vs.getD i (.slice none 0 0)) (ints (h.getD i []))):=g3
   subst huv
   generalize hhl:h.length=hl at *
   have HHL:Hid (h.length=hl):=hhl
   have HR0:Hid (Rws w.heap.size 26 3 wr (.slice uo hl uc) h):=HR.out
   clear g1 g2 g3 HR hhl
   have hkI0:(0:Int)≤(k:Int):=by omega
   have hkI1:(k:Int) < (m.length:Int):=by omega
   -- the worlds that the orders come to
   have E1:=emp_own wr wr.heap.size (Nat.le_refl _)
   have E2:=(emp_own wr wr.heap.size (Nat.le_refl _)).alloc (.cells #[.slice ro ln rc] 26)
   have E3:((wr.alloc (.cells #[.slice ro ln rc] 26)).alloc (.cells #[] 26)).ownsRow wr.heap.size 26 1 (.slice (some ⟨wr.heap.size+1,0,none⟩) 0 0) 0 []:=by
    have:=emp_own (wr.alloc (.cells #[.slice ro ln rc] 26)) wr.heap.size (by simp)
    simpa using this
   have B1:=(Below.refl wr.heap.size wr).alloc (Nat.le_refl _) (.cells #[] 26)
   have B2:=B1.alloc (by simp) (.cells #[.slice ro ln rc] 26)
   have B3:=((Below.refl wr.heap.size wr).alloc (Nat.le_refl _) (.cells #[.slice ro ln rc] 26)).alloc (by simp) (.cells #[] 26)
   have H2:((wr.alloc (.cells #[] 26)).alloc (.cells #[.slice ro ln rc] 26)).heap[wr.heap.size+1]?=some (.cells #[.slice ro ln rc] 26 (0,0)):=by
    have:=heap_alloc_new (wr.alloc (.cells #[] 26)) (.cells #[.slice ro ln rc] 26)
    simpa using this
   have H3:((wr.alloc (.cells #[.slice ro ln rc] 26)).alloc (.cells #[] 26)).heap[wr.heap.size]?=some (.cells #[.slice ro ln rc] 26 (0,0)):=by
    rw [Below.heap_alloc _ _ _ (by simp),heap_alloc_new]
   have hbk:b < wr.heap.size:=lt_of_cell hcc
   have HSV:Hid (Sl w.heap.size 26 wr (.slice uo hl uc) vs):=Sl.own HG2.out
   -- what the region leaves,in whatever order
   have HFIN:Hid (∀(w3:World) (v3:Value),w3.ownsRow wr.heap.size 26 1 v3 (0+hl+1) ([] ++ vs ++ [.slice ro ln rc])→Below wr.heap.size wr w3→Rws w.heap.size 26 3 w3 v3 (h ++ [z])∧Below w.heap.size w w3∧Below wr.heap.size wr w3):=by
    intro w3 v3 ho hb3
    simp only [Nat.zero_add,List.nil_append] at ho
    refine ⟨⟨vs ++ [.slice ro ln rc],by simp [HG1.out,HHL.out],?_,fun i hi=>?_⟩,HB.out.trans (hb3.mono hsz),hb3⟩
    ·have e:(h ++ [z]).length=hl+1:=by simp [HHL.out]
     rw [e]
     obtain ⟨q1,q2⟩:=ho
     refine ⟨q1,?_⟩
     rcases q2 with q2 | ⟨g,cap,cur,r1,r2,r3⟩
     ·exact Or.inl q2
     ·exact Or.inr ⟨g,cap,cur,r1,by omega,r3⟩
    ·have hg1:=HG1.out
     have hhl:=HHL.out
     by_cases hil:i < hl
     ·have e1:(vs ++ [Value.slice ro ln rc]).getD i (.slice none 0 0)=vs.getD i (.slice none 0 0):=by
       simp only [List.getD_eq_getElem?_getD]; rw [List.getElem?_append_left (by omega)]
      have e2:(h ++ [z]).getD i []=h.getD i []:=by
       simp only [List.getD_eq_getElem?_getD]; rw [List.getElem?_append_left (by omega)]
      rw [e1,e2]
      exact (HG3.out i hil).below hb3 (Nat.le_refl _)
     ·have hi':i=hl:=by simp at hi; omega
      subst hi'
      have e1:(vs ++ [Value.slice ro ln rc]).getD i (.slice none 0 0)=.slice ro ln rc:=by rw [←hg1]; simp
      have e2:(h ++ [z]).getD i []=z:=by rw [←hhl]; simp
      rw [e1,e2]
      exact HR1.out.below hb3 (Nat.le_refl _)
   cases uo with
   | none=>
    obtain ⟨hl0,uc0,vs0⟩:hl=0∧uc=0∧vs=[]:=by
     have hq:=HG2.out
     obtain ⟨q1,q2⟩:=hq
     rcases q2 with ⟨q3,q4⟩ | ⟨g,_,_,q3,_⟩
     ·simp only [Value.slice.injEq] at q3
      exact ⟨q4,q3.2.2,List.eq_nil_of_length_eq_zero (by rw [q1,q4])⟩
     ·simp at q3
    subst hl0 uc0 vs0
    go_wp2
    go_region_held3 (fun w'=>w'.cell? ⟨b,o+k,none⟩=some (.slice ro ln rc)) (first | go_keep | exact KS2.out)
     ((first | (refine step_append_none (o:={ dst:=some 14,op:=_,type:=_,pos:=_,after:=_,guard:=_ }) (by rfl) (.tmp 12) (.tmp 13) 22 (by rfl) wr.heap.size 26 i0 1 Tryz.underlying22 hi _ 0 [] (by rfl) (by first | exact E1 | exact E2 | exact E3) (by rfl) ?_) | (refine step_append_own (o:={ dst:=some 20,op:=_,type:=_,pos:=_,after:=_,guard:=_ }) (by rfl) (.tmp 14) (.tmp 19) 22 (by rfl) wr.heap.size 26 i0 (.slice none 0 0) 1 24 Tryz.underlying22 hi hz0 hz1 hz2 rfl (by decide) _ 0 [] (by rfl) (by first | exact E2 | exact E3) _ 1 1 [.slice ro ln rc] (by rfl) rfl (by first | exact newsC H2 | exact newsC H3) (one_slice _ _ _) (by unfold maxLen; omega) (by omega) (by simp <;> omega) ?_; intro v3 w3 ho3 hg3; have FF:=HFIN.out w3 v3 ho3 (by first | exact grown_below B2.drew (Nat.le_refl _) E2.drew hg3 | exact grown_below B3.drew (Nat.le_refl _) E3.drew hg3); have KS2:Hid (w3.cell? ⟨b,o+k,none⟩=some (.slice ro ln rc)):=(FF.2.2.cell hbk).trans hcc)))
    all_goals
     have HF1:Hid (Rws w.heap.size 26 3 w3 v3 (h ++ [z])):=FF.1
     have HF2:Hid (Below w.heap.size w w3):=FF.2.1
     have HF3:Hid (Below wr.heap.size wr w3):=FF.2.2
     clear FF KS2 ho3 hg3 E1 E2 E3 B1 B2 B3 H2 H3
     go_wp2_with fail
     refine (free_any c Bd w.heap.size (h ++ [z]) v3 w3 HPM.out (HF1.out.mat (Nat.le_refl _)) (by rw [List.length_append,HHL.out,List.length_singleton]; omega)).mono ?_
     rintro e w4 ⟨rfl,hb4⟩
     have HB4:Hid (Below w.heap.size w w4):=HF2.out.trans (hb4.mono HF2.out.size)
     have HF4:Hid (Rws w.heap.size 26 3 w4 v3 (h ++ [z])):=HF1.out.below hb4 (Nat.le_refl _)
     have HR4:Hid (Rws w.heap.size 26 3 w4 (.slice none 0 0) h):=(HR0.out.below HF3.out (Nat.le_refl _)).below hb4 (Nat.le_refl _)
     clear hb4 HF1 HF2 HF3
     cases hf:freeL c (h ++ [z])
     ·have HSF:Hid (pickL c (m.take (k+1))=h):=by show _=_; have:=HSN.out; rw [hf] at this; simpa using this
      clear hf
      go_wp2
      go_roundw
      case rel=>exact ⟨k+1,by omega,by go_num,by rw [HSF.out]; exact HR4.out,HB4.out⟩
      case measure=>simp [intOf]; omega
     ·have HSF:Hid (pickL c (m.take (k+1))=h ++ [z]):=by show _=_; have:=HSN.out; rw [hf] at this; simpa using this
      clear hf
      go_wp2
      go_roundw
      case rel=>exact ⟨k+1,by omega,by go_num,by rw [HSF.out]; exact HF4.out,HB4.out⟩
      case measure=>simp [intOf]; omega
   | some ua=>
    go_wp2
    go_region_held3 (fun w'=>w'.cell? ⟨b,o+k,none⟩=some (.slice ro ln rc)) (first | go_keep | exact KS1.out | exact KS2.out)
     ((first | (refine step_append_own (o:={ dst:=some 14,op:=_,type:=_,pos:=_,after:=_,guard:=_ }) (by rfl) (.tmp 12) (.tmp 13) 22 (by rfl) wr.heap.size 26 i0 (.slice none 0 0) 1 24 Tryz.underlying22 hi hz0 hz1 hz2 rfl (by decide) _ 0 [] (by rfl) (by first | exact E1 | exact E2 | exact E3) ua hl uc vs (by rfl) (by simp [HG1.out]) (by first | exact cells1 HSV.out _ | exact cells2 HSV.out _ _) (cells_one HG1.out HG3.out) (by unfold maxLen; omega) (by omega) (by simp <;> omega) ?_; intro v1 w2 ho1 hg1; have BB:Hid (Below wr.heap.size wr w2):=(by first | exact grown_below B1.drew (Nat.le_refl _) E1.drew hg1 | exact grown_below B2.drew (Nat.le_refl _) E2.drew hg1 | exact grown_below B3.drew (Nat.le_refl _) E3.drew hg1); have KS1:Hid (w2.cell? ⟨b,o+k,none⟩=some (.slice ro ln rc)):=(BB.out.cell hbk).trans hcc) | (refine step_append_own (o:={ dst:=some 20,op:=_,type:=_,pos:=_,after:=_,guard:=_ }) (by rfl) (.tmp 14) (.tmp 19) 22 (by rfl) wr.heap.size 26 i0 (.slice none 0 0) 1 24 Tryz.underlying22 hi hz0 hz1 hz2 rfl (by decide) _ (0+hl) ([] ++ vs) (by rfl) (by first | exact ho1 | exact ho1.alloc _) _ 1 1 [.slice ro ln rc] (by rfl) rfl (by first | exact one_new _ _ _ | exact newsA hg1 (W:=World.drew _) H2 (by show (some wr.heap.size:Option Nat)≠some (wr.heap.size+1); simp) | exact newsA hg1 (W:=World.drew _) H3 (by show (some (wr.heap.size+1):Option Nat)≠some wr.heap.size; simp)) (one_slice _ _ _) (by unfold maxLen; omega) (by omega) (by first | exact BB.out.size | exact Nat.le_trans BB.out.size (by simp)) ?_; intro v3 w3 ho3 hg3; have FF:=HFIN.out w3 v3 ho3 (by first | exact grown_below BB.out (Nat.le_refl _) ho1 hg3 | exact grown_below (BB.out.alloc BB.out.size _) (Nat.le_refl _) (ho1.alloc _) hg3); have KS2:Hid (w3.cell? ⟨b,o+k,none⟩=some (.slice ro ln rc)):=(FF.2.2.cell hbk).trans hcc)))
    all_goals
     have HF1:Hid (Rws w.heap.size 26 3 w3 v3 (h ++ [z])):=FF.1
     have HF2:Hid (Below w.heap.size w w3):=FF.2.1
     have HF3:Hid (Below wr.heap.size wr w3):=FF.2.2
     clear FF KS2 ho3 hg3 KS1 BB ho1 hg1 E1 E2 E3 B1 B2 B3 H2 H3
     go_wp2_with fail
     refine (free_any c Bd w.heap.size (h ++ [z]) v3 w3 HPM.out (HF1.out.mat (Nat.le_refl _)) (by rw [List.length_append,HHL.out,List.length_singleton]; omega)).mono ?_
     rintro e w4 ⟨rfl,hb4⟩
     have HB4:Hid (Below w.heap.size w w4):=HF2.out.trans (hb4.mono HF2.out.size)
     have HF4:Hid (Rws w.heap.size 26 3 w4 v3 (h ++ [z])):=HF1.out.below hb4 (Nat.le_refl _)
     have HR4:Hid (Rws w.heap.size 26 3 w4 (.slice (some ua) hl uc) h):=(HR0.out.below HF3.out (Nat.le_refl _)).below hb4 (Nat.le_refl _)
     clear hb4 HF1 HF2 HF3
     cases hf:freeL c (h ++ [z])
     ·have HSF:Hid (pickL c (m.take (k+1))=h):=by show _=_; have:=HSN.out; rw [hf] at this; simpa using this
      clear hf
      go_wp2
      go_roundw
      case rel=>exact ⟨k+1,by omega,by go_num,by rw [HSF.out]; exact HR4.out,HB4.out⟩
      case measure=>simp [intOf]; omega
     ·have HSF:Hid (pickL c (m.take (k+1))=h ++ [z]):=by show _=_; have:=HSN.out; rw [hf] at this; simpa using this
      clear hf
      go_wp2
      go_roundw
      case rel=>exact ⟨k+1,by omega,by go_num,by rw [HSF.out]; exact HF4.out,HB4.out⟩
      case measure=>simp [intOf]; omega
  ·obtain ⟨vs,g1,g2,g3⟩:=HR.out
   obtain ⟨uo,uc,huv⟩:=owns_form g2
   subst huv
   have HTK:Hid (m.take k=m):=List.take_of_length_le (by omega)
   clear g1 g2 g3
   go_wp2
   go_ret
   exact ⟨ret_int (by rw [HTK.out]),HB.out⟩
end Go.Proofs.YtcoeneldaohpnaaGreat
