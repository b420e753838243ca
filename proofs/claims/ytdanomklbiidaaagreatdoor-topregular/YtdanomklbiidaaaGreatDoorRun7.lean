import Derived.Test.YtdanomklbiidaaaGreatDoorMgAC
import Derived.BigRegion
namespace Go.Proofs.YtdanomklbiidaaaGreatDoor
open Go.RowKit
attribute [local go_sem ↓] Go.wp_at_zero Go.wp_at_succ
theorem RS.same {B R n c k:Nat} {mat:Nat→Nat→Int} {piv:List Int} {val sgn:Int} {go capo:Nat} {pv:Value} {bs caps:Nat→Nat} {w:World} (h:RS B R n c mat piv val sgn go capo pv bs caps w) :
  RS B R n c (fun i j=>mat (sw k k i) j) piv val sgn go capo pv (fun i=>bs (sw k k i)) (fun i=>caps (sw k k i)) w:=by
 have e1:(fun i j=>mat (sw k k i) j)=mat:=by funext i j; rw [sw_self]
 have e2:(fun i=>bs (sw k k i))=bs:=by funext i; rw [sw_self]
 have e3:(fun i=>caps (sw k k i))=caps:=by funext i; rw [sw_self]
 rw [e1,e2,e3]; exact h
theorem RS.drew {B R n c:Nat} {mat:Nat→Nat→Int} {piv:List Int} {val sgn:Int} {go capo:Nat} {pv:Value} {bs caps:Nat→Nat} {w:World} (h:RS B R n c mat piv val sgn go capo pv bs caps w) :
  RS B R n c mat piv val sgn go capo pv bs caps w.drew:=⟨h.st,h.out.drew,fun i hi=>(h.row i hi).drew,h.inj,h.piv.drew,h.off⟩
theorem RS.cells {B R n c:Nat} {mat:Nat→Nat→Int} {piv:List Int} {val sgn:Int} {go capo:Nat} {pv:Value} {bs caps:Nat→Nat} {w:World} (h:RS B R n c mat piv val sgn go capo pv bs caps w) :
  w.cell? ⟨R,0,none⟩=some (.slice (some ⟨go,0,none⟩) n capo)∧w.cell? ⟨R,1,none⟩=some pv∧w.cell? ⟨R,2,none⟩=some (.int .i64 val)∧w.cell? ⟨R,3,none⟩=some (.int .i64 sgn)∧
   (∀i,w.frozen? ⟨R,i,none⟩=false)∧(∀i,i < n→w.cell? ⟨go,i,none⟩=some (.slice (some ⟨bs i,0,none⟩) c (caps i)))∧(∀i,w.frozen? ⟨go,i,none⟩=false)∧
   ∀i,i < n→∀j,j < c→w.cell? ⟨bs i,j,none⟩=some (.int .i64 (mat i j)):=by
 have hst:=h.st
 refine ⟨by simp [World.cell?,hst],by simp [World.cell?,hst],by simp [World.cell?,hst],by simp [World.cell?,hst],fun i=>by simp [World.frozen?,hst],fun i hi=>?_,fun i=>h.out.frozenAt i,fun i hi j hj=>?_⟩
 ·rw [h.out.cellAt i (by omega)]; simp [hi]
 ·rw [(h.row i hi).cellAt j (by omega),ints_get _ _ (by simpa using hj)]; simp [hj]
def matL (k i0 t:Nat) (mat nm:Nat→Nat→Int):Nat→Nat→Int:=fun a j=>if a=k then mat i0 j else if a < t then nm a j else mat (sw k i0 a) j
theorem matL_step {k i0 t:Nat} {mat nm:Nat→Nat→Int} (h:t≠k) (i j:Nat):(if i=t then nm t j else matL k i0 t mat nm i j)=matL k i0 (t+1) mat nm i j:=by
 unfold matL; grind
set_option maxRecDepth 100000 in
set_option maxHeartbeats 4000000 in
theorem pivot_some (B R n c q f:Nat) (mat nm:Nat→Nat→Int) (piv:List Int) (val sgn:Int) (go capo:Nat) (pv:Value) (bs caps:Nat→Nat) (w:World) (h:RS B R n c mat piv val sgn go capo pv bs caps w) (hB:B≤w.heap.size) (hBR:B≤R)
  (hn:n≤500) (hk:piv.length+f < n) (hq:q < c) (hz:∀i,piv.length≤i→i < piv.length+f→mat i q=0) (hne:mat (piv.length+f) q≠0) (hval:val≠0) (hsgn:sgn=1∨sgn=-1)
  (he:∀i,i < n→i≠piv.length→∀j,j < c→mat (piv.length+f) q*mat (sw piv.length (piv.length+f) i) j-mat (sw piv.length (piv.length+f) i) q*mat (piv.length+f) j=val*nm i j)
  (hb:∀i,i < n→i≠piv.length→∀j,j < c→(val*nm i j).natAbs≤9223372036854775807∧(nm i j).natAbs≤9223372036854775807) :
  Calls Tryz.prog 81 #[.pointer (some ⟨R,0,none⟩),.int .i64 q] w fun e w'=>e=.returned (.tuple #[])∧
   (∃pv' bs' caps',RS B R n c (fun i j=>if i=piv.length then mat (piv.length+f) j else nm i j) (piv ++ [(q:Int)]) (mat (piv.length+f) q) (if f=0 then sgn else -sgn) go capo pv' bs' caps' w')∧Below B w w':=by
 obtain ⟨po,pc,hpv⟩:=owns_form h.piv
 subst hpv
 have HR:Hid (RS B R n c mat piv val sgn go capo (.slice po piv.length pc) bs caps w):=h
 have HE:Hid (∀i,i < n→i≠piv.length→∀j,j < c→mat (piv.length+f) q*mat (sw piv.length (piv.length+f) i) j-mat (sw piv.length (piv.length+f) i) q*mat (piv.length+f) j=val*nm i j):=he
 have HBD:Hid (∀i,i < n→i≠piv.length→∀j,j < c→(val*nm i j).natAbs≤9223372036854775807∧(nm i j).natAbs≤9223372036854775807):=hb
 have HF:Hid (findR ((rowsOf n c mat).drop piv.length) q=f):=rows_find hq hk hz hne
 have hcc:n≤capo∧capo≤9223372036854775807:=by
  obtain ⟨_,h2⟩:=h.out
  rcases h2 with ⟨h,_⟩ | ⟨k,cp,cur,h,_,_,h3,h4,_⟩
  ·simp at h
  ·simp only [Value.slice.injEq] at h; unfold maxLen at h4; omega
 obtain ⟨h0,h1,_,_,_,_,_,_⟩:=h.cells
 have hRlt:=lt_of_block h.st
 have HT:Hid (RS B R n c mat piv val sgn go capo (.slice po piv.length pc) bs caps w→True):=fun _=>trivial
 have HPL:Hid (piv.length=piv.length):=rfl
 obtain ⟨k,hkl⟩:∃k,k=piv.length:=⟨_,rfl⟩
 have HKL:Hid (k=piv.length):=hkl
 rw [←hkl] at HR HE HBD HF h1 hk ⊢
 have HAL:Hid (Below w.heap.size w (w.alloc (.cells #[.int .i64 q] 3))):=(Below.refl _ _).alloc (Nat.le_refl _) _
 have hkn:k < n:=by omega
 have hkc:k < capo:=by omega
 clear h hz hne he hb hkl HT HPL
 go_enter Tryz.func81,Tryz.ntmps81
 go_wp2_with fail
 refine (index103_any B q _ _ ⟨w.heap.size,0,none⟩ _ ((HR.out.tail k hkn).below HAL.out (Nat.le_refl _)) (rows_len hq) (by simp)).mono ?_
 rintro e W ⟨rfl,hW⟩
 rw [HF.out]
 obtain ⟨N,hN⟩:∃N,N=w.heap.size:=⟨_,rfl⟩
 have HRW:Hid (RS B R n c mat piv val sgn go capo (.slice po k pc) bs caps W):=by rw [hW]; exact HR.out.below HAL.out (Nat.le_refl _)
 have HBW:Hid (Below B w W):=by rw [hW]; exact HAL.out.mono hB
 have HNW:Hid (W.cell? ⟨N,0,none⟩=some (.int .i64 q)∧N < W.heap.size):=by rw [hW,hN]; exact ⟨by simp,by simp⟩
 have HNB:Hid (∀i,i < n→bs i≠N):=by
  rw [hN]; intro i hi; have:=(HR.out.typed.2.1 i hi).2.2.1; omega
 have hNR:N≠R:=by omega
 have hNgo:N≠go:=by
  have:=(HR.out.out.lt go (by simp [Value.ownBlock])).2; omega
 have hBN:B≤N:=by omega
 rw [←hN]
 clear hW hN HAL HR
 obtain ⟨c0,c1,c2,c3,cfR,cgo,cfgo,cbs⟩:=HRW.out.cells
 have hgoR:=HRW.out.typed.1
 have hBgo:=HRW.out.typed.2.2.1
 have d0:=cgo k hkn
 have d1:=cgo (k+f) hk
 have f0:=cfgo k
 have f1:=cfgo (k+f)
 have f2:=cfR 3
 clear cfR cgo cfgo cbs
 have tf1:decide ((f:Int) < 0)=false:=decide_eq_false (by omega)
 by_cases hf0:f=0
 ·subst hf0
  have HR3:Hid (RS B R n c (fun i j=>mat (sw k k i) j) piv val sgn go capo (.slice po k pc) (fun i=>bs (sw k k i)) (fun i=>caps (sw k k i)) W):=HRW.out.same
  have HB3:Hid (Below B w W):=HBW.out
  have HN3:Hid (W.cell? ⟨N,0,none⟩=some (.int .i64 q)∧N < W.heap.size):=HNW.out
  clear HRW HBW HNW
  go_wp2
  go_loopw [76,7,8] (fun i _ _ wr=>∃t:Nat,t≤n∧i=.int .i64 t∧RS B R n c (matL k k t mat nm) piv val sgn go capo (.slice po k pc) (fun i=>bs (sw k k i)) (fun i=>caps (sw k k i)) wr∧Below B w wr∧wr.cell? ⟨N,0,none⟩=some (.int .i64 q)∧N < wr.heap.size) (fun i _ _ _=>n-(intOf i).toNat)
  case atStart=>exact ⟨0,Nat.zero_le _,rfl,HR3.out.congr (fun i _ j _=>by unfold matL; by_cases e:i=k <;> simp [e,sw]),HB3.out,HN3.out.1,HN3.out.2⟩
  case round=>
   obtain ⟨t,ht,rfl,hrs,hbel,hcN,hNl⟩:=hrel
   obtain ⟨e0,e1,e2,e3,efR,ego,efgo,ebs⟩:=hrs.cells
   have HRS:Hid (RS B R n c (matL k k t mat nm) piv val sgn go capo (.slice po k pc) (fun i=>bs (sw k k i)) (fun i=>caps (sw k k i)) wr):=hrs
   have HBL:Hid (Below B w wr):=hbel
   have hRl:R < wr.heap.size:=lt_of_block hrs.st
   by_cases htn:t < n
   ·have g0:=ego t htn
    clear efR ego efgo ebs hrs hbel e1 e3
    by_cases htk:t=k
    ·have htb:((t:Int) != (k:Int))=false:=by rw [bne_eq_false_iff_eq]; omega
     have HTK:Hid (t=k):=htk
     clear htk
     go_wp2
     go_roundw
     case rel=>exact ⟨t+1,by omega,by go_num,HRS.out.congr (fun i _ j _=>by have:=HTK.out; unfold matL; by_cases e:i=k <;> simp [e]; by_cases e2:i < t <;> simp [e2,show (i < t+1)=(i < t) by simp; omega]),HBL.out,hcN,hNl⟩
     case measure=>simp [intOf]; omega
    ·have htb:((t:Int) != (k:Int))=true:=by rw [bne_iff_ne]; omega
     have HTK:Hid (t≠k):=htk
     have HROW:=HRS.out.row t htn
     have HPIV:=HRS.out.row k hkn
     have HINJ:=HRS.out.inj k t hkn htn (Ne.symm htk)
     have hbN:bs (sw k k t)≠N:=HNB.out _ (sw_lt hkn hkn htn)
     have hbR:bs (sw k k t)≠R:=(HRS.out.typed.2.1 t htn).2.1
     have hBb:B≤bs (sw k k t):=(HRS.out.typed.2.1 t htn).2.2.2
     have HCL:Hid (Calls Tryz.prog 101 #[.slice (some ⟨bs (sw k k t),0,none⟩) c (caps (sw k k t)),.slice (some ⟨bs k,0,none⟩) c (caps k),.int .i64 q,.int .i64 val] wr.drew fun e w'=>
       e=.returned (.tuple #[])∧w'.ownsRow B 3 1 (.slice (some ⟨bs (sw k k t),0,none⟩) c (caps (sw k k t))) c (ints ((List.range c).map (nm t)))∧Touch (bs (sw k k t)) wr w'):=by
      have esw:sw k k k=k:=by unfold sw; simp
      have er:(List.range c).map (matL k k t mat nm t)=(List.range c).map (mat (sw k k t)):=by
       refine List.map_congr_left fun j _=>?_
       unfold matL; rw [if_neg htk,if_neg (by omega)]
      have ep:(List.range c).map (matL k k t mat nm k)=(List.range c).map (mat k):=by
       refine List.map_congr_left fun j _=>?_
       unfold matL; rw [if_pos rfl]
      rw [er] at HROW
      rw [ep] at HPIV
      simp only [esw] at HPIV HINJ
      have gd:∀(g:Nat→Int) j,j < c→((List.range c).map g).getD j 0=g j:=by intro g j hj; simp [hj]
      have hcl:=clear_any B (bs (sw k k t)) (bs k) c (caps (sw k k t)) (caps k) q _ _ ((List.range c).map (nm t)) val wr.drew HROW.drew HPIV.drew HINJ hq hval (by simp) (by simp) (by simp)
       (fun j hj=>by rw [gd _ _ hq,gd _ _ hq,gd _ _ hj,gd _ _ hj,gd _ _ hj]; exact HE.out t htn htk j hj) (fun j hj=>by rw [gd _ _ hj]; exact HBD.out t htn htk j hj)
      exact hcl.mono fun e w' ⟨h1,h2,h3⟩=>⟨h1,h2,⟨h3.os,h3.tape,h3.output,h3.size,h3.block⟩⟩
     clear HROW HPIV HINJ htk
     go_wp2
     go_region_held3 (fun w'=>w'.cell? ⟨N,0,none⟩=some (.int .i64 q)∧w'.cell? ⟨R,2,none⟩=some (.int .i64 val)) (first | go_keep | exact KS.out)
      ((go_at_call 101; refine (HCL.out).mono ?_; rintro e w2 ⟨rfl,ho2,ht2⟩; have KS:Hid (w2.cell? ⟨N,0,none⟩=some (.int .i64 q)∧w2.cell? ⟨R,2,none⟩=some (.int .i64 val)):=⟨(ht2.cell hbN.symm).trans hcN,(ht2.cell hbR.symm).trans e2⟩))
     have S1:Hid (RS B R n c (matL k k (t+1) mat nm) piv val sgn go capo (.slice po k pc) (fun i=>bs (sw k k i)) (fun i=>caps (sw k k i)) w2):=by
      exact (HRS.out.clear (i:=t) htn ht2 ho2).congr fun i _ j _=>matL_step HTK.out i j
     have S2:Hid (Below B w w2):=HBL.out.trans ⟨ht2.os,ht2.tape,ht2.output,by rw [ht2.size]; exact Nat.le_refl _,fun x hx=>ht2.block x (by omega)⟩
     have S3:=KS.out.1
     have S4:N < w2.heap.size:=by rw [ht2.size]; exact hNl
     clear ho2 ht2 KS HCL
     go_wp2
     go_roundw
     case rel=>exact ⟨t+1,by omega,by go_num,S1.out,S2.out,S3,S4⟩
     case measure=>simp [intOf]; omega
   ·have htn':t=n:=by omega
    have esw:sw k k k=k:=by unfold sw; simp
    have x0:=ebs k hkn q hq
    have f3:=efR 2
    have f4:=efR 1
    simp only [esw] at x0
    have x1:matL k k t mat nm k q=mat k q:=by unfold matL; rw [if_pos rfl]
    rw [x1] at x0
    have HPW:Hid (wr.ownsRow B 3 1 (.slice po k pc) k (ints piv)):=by have:=HRS.out.piv; rw [←HKL.out] at this; exact this
    have hbR:bs k≠R:=by have:=(HRS.out.typed.2.1 k hkn).2.1; simpa only [esw] using this
    have HFM:Hid (RS B R n c (fun i j=>if i=k then mat k j else nm i j) piv val sgn go capo (.slice po k pc) (fun i=>bs (sw k k i)) (fun i=>caps (sw k k i)) wr):=
     HRS.out.congr fun i hi j _=>by unfold matL; by_cases e:i=k <;> simp [e]; intro h1; omega
    obtain ⟨vq,hvq⟩:∃vq,mat k q=vq:=⟨_,rfl⟩
    have HVQ:Hid (mat k q=vq):=hvq
    rw [hvq] at x0
    clear hvq
    clear efR ego efgo ebs hrs hbel esw x1 htn' e0 e3
    have HPO:Hid (∀g,(Value.slice po k pc).ownBlock=some g→B≤g):=fun g hg=>(HFM.out.typed.2.2.2 g hg).2.2.1
    go_wp2
    obtain ⟨Z,hZ⟩:∃Z,Z=wr.setCell ⟨R,2,none⟩ (.int .i64 vq):=⟨_,rfl⟩
    have z1:Z.cell? ⟨R,1,none⟩=some (.slice po k pc):=by rw [hZ]; rw [World.cell?_setCell_other]; exact e1; simp
    have z2:Z.cell? ⟨N,0,none⟩=some (.int .i64 q):=by rw [hZ]; rw [World.cell?_setCell_other]; exact hcN; simp
    have HZO:Hid (Z.ownsRow B 3 1 (.slice po k pc) k (ints piv)):=by
     rw [hZ]; exact ownsRow_setCell_other HPW.out (fun e=>(HFM.out.typed.2.2.2 R e).1 rfl) _
    have hzs:Z.heap.size=wr.heap.size:=by rw [hZ]; simp [World.setCell]
    have HZE:Hid (Z=wr.setCell ⟨R,2,none⟩ (.int .i64 vq)):=hZ
    rw [←hZ]
    clear hZ
    obtain ⟨i3,hi3,hz30,hz31,hz32⟩:∃i,Tryz.prog.info? 3=some i∧i.zero=some (.int .i64 0)∧i.size=1∧i.bytes=8:=⟨_,by rfl,by rfl,by rfl,by rfl⟩
    have hkm:k+1≤maxLen:=by unfold maxLen; omega
    have hBZ:B≤Z.heap.size:=by omega
    have hRZ:R < Z.heap.size:=by omega
    have HZS:Hid (Z.heap.size=wr.heap.size):=hzs
    have HFL:Hid (∀w3 vo vc o,w3.ownsRow B 3 1 (.slice vo (k+1) vc) (k+1) (ints piv ++ [.int .i64 q])→(Z.drew.alloc o).grownBy w3 (Value.slice po k pc).ownBlock→((Value.slice vo (k+1) vc).ownBlock=(Value.slice po k pc).ownBlock∨(Value.slice vo (k+1) vc).ownBlock=some (Z.drew.alloc o).heap.size)→
      RS B R n c (fun i j=>if i=k then mat k j else nm i j) (piv ++ [(q:Int)]) vq sgn go capo (.slice vo (k+1) vc) (fun i=>bs (sw k k i)) (fun i=>caps (sw k k i)) (w3.setCell ⟨R,1,none⟩ (.slice vo (k+1) vc))∧w3.cell? ⟨R,1,none⟩=some (.slice po k pc)∧w3.frozen? ⟨R,1,none⟩=false∧Below B w w3):=by
     intro w3 vo vc o ho hg hat
     have hB3:Below B w w3:=by
      have hb1:Below B w Z:=by rw [HZE.out]; exact HBL.out.setCell (by exact hBR) _
      have hb2:Below B w (Z.drew.alloc o):=hb1.drew.alloc (by simpa using hBZ) _
      exact hb2.grown hg (by simp; omega) HPO.out
     rw [HZE.out] at hg hat
     have:=HFM.out.last (q:=q) (v':=vq) (w3:=w3) (o:=o) (by rw [←HKL.out]; exact ho) (by
      exact ⟨hg.os,hg.tape,hg.output,hg.size,hg.block⟩) (by rcases hat with e | e; exact Or.inl e; exact Or.inr (Or.inr e))
     exact ⟨this.1,this.2.1,this.2.2,hB3⟩
    clear hzs
    go_region_law (refine step_append_at (by rfl) _ _ 22 (by rfl) B 3 i3 (.int .i64 0) 1 8 Tryz.underlying22 hi3 hz30 hz31 hz32 rfl (by decide) _ _ _ (by rfl) (HZO.out.drew.alloc _) ⟨Z.heap.size,0,none⟩ 1 1 [.int .i64 q] (by rfl) rfl (one_new _ _ _) (one_int _) hkm (by omega) (by simp; omega) ?_; intro v' w3 ho hg hat; obtain ⟨vo,vc,hv'⟩:=owns_form ho; subst hv'; have FF:Hid _:=HFL.out w3 vo vc _ ho hg hat; have KS1:=FF.out.2.1; have KS2:=FF.out.2.2.1)
    all_goals (go_wp2; go_end0; exact ⟨rfl,⟨_,_,_,by have h:=FF.out.1; rw [←HVQ.out] at h; first | exact h | (rw [if_neg HF0.out]; exact h)⟩,FF.out.2.2.2.setCell (by exact hBR) _⟩)
 ·have hfI:(0:Int) < (f:Int):=by omega
  have tf2:decide (0 < f)=true:=decide_eq_true (by omega)
  have hkI0:(0:Int)≤(k:Int):=by omega
  have hkI1:(k:Int) < (n:Int):=by omega
  have hkf1:(k:Int)+(f:Int) < (n:Int):=by omega
  have hgR:R≠go:=Ne.symm hgoR
  have HF0:Hid (f≠0):=hf0
  have HRSW:Hid (RS B R n c (fun i j=>mat (sw k (k+f) i) j) piv val (-sgn) go capo (.slice po k pc) (fun i=>bs (sw k (k+f) i)) (fun i=>caps (sw k (k+f) i))
   (((W.setCell ⟨go,k,none⟩ (.slice (some ⟨bs (k+f),0,none⟩) c (caps (k+f)))).setCell ⟨go,k+f,none⟩ (.slice (some ⟨bs k,0,none⟩) c (caps k))).setCell ⟨R,3,none⟩ (.int .i64 (-sgn)))):=HRW.out.swap hkn hk (by omega) (-sgn)
  clear hf0
  go_wp2
  go_region
  obtain ⟨W2,hW2⟩:∃W2,W2=(W.setCell ⟨go,k,none⟩ (.slice (some ⟨bs (k+f),0,none⟩) c (caps (k+f)))).setCell ⟨go,k+f,none⟩ (.slice (some ⟨bs k,0,none⟩) c (caps k)):=⟨_,rfl⟩
  rw [←hW2]
  have y3:W2.cell? ⟨R,3,none⟩=some (.int .i64 sgn):=by rw [hW2,World.cell?_setCell_other,World.cell?_setCell_other]; exact c3; simp; simp
  have yf:W2.frozen? ⟨R,3,none⟩=false:=by rw [hW2]; simpa [World.frozen?_setCell] using f2
  have hgl:=(HRW.out.out.lt go (by simp [Value.ownBlock])).2
  have y0:W2.cell? ⟨R,0,none⟩=some (.slice (some ⟨go,0,none⟩) n capo):=by rw [hW2,World.cell?_setCell_other,World.cell?_setCell_other]; exact c0; simp; simp
  have yk:W2.cell? ⟨go,k,none⟩=some (.slice (some ⟨bs (k+f),0,none⟩) c (caps (k+f))):=by
   rw [hW2,World.cell?_setCell_other]
   ·exact World.cell?_setCell_same _ _ _ d0
   ·simp
  have HR3:Hid (RS B R n c (fun i j=>mat (sw k (k+f) i) j) piv val (-sgn) go capo (.slice po k pc) (fun i=>bs (sw k (k+f) i)) (fun i=>caps (sw k (k+f) i)) (W2.setCell ⟨R,3,none⟩ (.int .i64 (-sgn))).drew):=by
   rw [hW2]; exact HRSW.out.drew
  have HB3:Hid (Below B w (W2.setCell ⟨R,3,none⟩ (.int .i64 (-sgn))).drew):=by
   rw [hW2]; exact (((HBW.out.setCell (by exact hBgo) _).setCell (by exact hBgo) _).setCell (by exact hBR) _).drew
  have HN3:Hid ((W2.setCell ⟨R,3,none⟩ (.int .i64 (-sgn))).drew.cell? ⟨N,0,none⟩=some (.int .i64 q)∧N < (W2.setCell ⟨R,3,none⟩ (.int .i64 (-sgn))).drew.heap.size):=by
   show (W2.setCell ⟨R,3,none⟩ (.int .i64 (-sgn))).cell? ⟨N,0,none⟩=some (.int .i64 q)∧N < (W2.setCell ⟨R,3,none⟩ (.int .i64 (-sgn))).heap.size
   rw [hW2,World.cell?_setCell_other,World.cell?_setCell_other,World.cell?_setCell_other]
   ·exact ⟨HNW.out.1,by simp [World.setCell]; exact HNW.out.2⟩
   ·simp
   ·simp
   ·simp
  clear hW2 HRSW HRW HBW HNW c0 c1 c2 c3 d0 d1 f0 f1 f2
  go_wp2
  go_loopw [76,7,8] (fun i _ _ wr=>∃t:Nat,t≤n∧i=.int .i64 t∧RS B R n c (matL k (k+f) t mat nm) piv val (-sgn) go capo (.slice po k pc) (fun i=>bs (sw k (k+f) i)) (fun i=>caps (sw k (k+f) i)) wr∧Below B w wr∧wr.cell? ⟨N,0,none⟩=some (.int .i64 q)∧N < wr.heap.size) (fun i _ _ _=>n-(intOf i).toNat)
  case atStart=>exact ⟨0,Nat.zero_le _,rfl,HR3.out.congr (fun i _ j _=>by unfold matL; by_cases e:i=k <;> simp [e,sw]),HB3.out,HN3.out.1,HN3.out.2⟩
  case round=>
   obtain ⟨t,ht,rfl,hrs,hbel,hcN,hNl⟩:=hrel
   obtain ⟨e0,e1,e2,e3,efR,ego,efgo,ebs⟩:=hrs.cells
   have HRS:Hid (RS B R n c (matL k (k+f) t mat nm) piv val (-sgn) go capo (.slice po k pc) (fun i=>bs (sw k (k+f) i)) (fun i=>caps (sw k (k+f) i)) wr):=hrs
   have HBL:Hid (Below B w wr):=hbel
   have hRl:R < wr.heap.size:=lt_of_block hrs.st
   by_cases htn:t < n
   ·have g0:=ego t htn
    clear efR ego efgo ebs hrs hbel e1 e3
    by_cases htk:t=k
    ·have htb:((t:Int) != (k:Int))=false:=by rw [bne_eq_false_iff_eq]; omega
     have HTK:Hid (t=k):=htk
     clear htk
     go_wp2
     go_roundw
     case rel=>exact ⟨t+1,by omega,by go_num,HRS.out.congr (fun i _ j _=>by have:=HTK.out; unfold matL; by_cases e:i=k <;> simp [e]; by_cases e2:i < t <;> simp [e2,show (i < t+1)=(i < t) by simp; omega]),HBL.out,hcN,hNl⟩
     case measure=>simp [intOf]; omega
    ·have htb:((t:Int) != (k:Int))=true:=by rw [bne_iff_ne]; omega
     have HTK:Hid (t≠k):=htk
     have HROW:=HRS.out.row t htn
     have HPIV:=HRS.out.row k hkn
     have HINJ:=HRS.out.inj k t hkn htn (Ne.symm htk)
     have hbN:bs (sw k (k+f) t)≠N:=HNB.out _ (sw_lt hkn hk htn)
     have hbR:bs (sw k (k+f) t)≠R:=(HRS.out.typed.2.1 t htn).2.1
     have hBb:B≤bs (sw k (k+f) t):=(HRS.out.typed.2.1 t htn).2.2.2
     have HCL:Hid (Calls Tryz.prog 101 #[.slice (some ⟨bs (sw k (k+f) t),0,none⟩) c (caps (sw k (k+f) t)),.slice (some ⟨bs (k+f),0,none⟩) c (caps (k+f)),.int .i64 q,.int .i64 val] wr.drew fun e w'=>
       e=.returned (.tuple #[])∧w'.ownsRow B 3 1 (.slice (some ⟨bs (sw k (k+f) t),0,none⟩) c (caps (sw k (k+f) t))) c (ints ((List.range c).map (nm t)))∧Touch (bs (sw k (k+f) t)) wr w'):=by
      have esw:sw k (k+f) k=(k+f):=by unfold sw; simp
      have er:(List.range c).map (matL k (k+f) t mat nm t)=(List.range c).map (mat (sw k (k+f) t)):=by
       refine List.map_congr_left fun j _=>?_
       unfold matL; rw [if_neg htk,if_neg (by omega)]
      have ep:(List.range c).map (matL k (k+f) t mat nm k)=(List.range c).map (mat (k+f)):=by
       refine List.map_congr_left fun j _=>?_
       unfold matL; rw [if_pos rfl]
      rw [er] at HROW
      rw [ep] at HPIV
      simp only [esw] at HPIV HINJ
      have gd:∀(g:Nat→Int) j,j < c→((List.range c).map g).getD j 0=g j:=by intro g j hj; simp [hj]
      have hcl:=clear_any B (bs (sw k (k+f) t)) (bs (k+f)) c (caps (sw k (k+f) t)) (caps (k+f)) q _ _ ((List.range c).map (nm t)) val wr.drew HROW.drew HPIV.drew HINJ hq hval (by simp) (by simp) (by simp)
       (fun j hj=>by rw [gd _ _ hq,gd _ _ hq,gd _ _ hj,gd _ _ hj,gd _ _ hj]; exact HE.out t htn htk j hj) (fun j hj=>by rw [gd _ _ hj]; exact HBD.out t htn htk j hj)
      exact hcl.mono fun e w' ⟨h1,h2,h3⟩=>⟨h1,h2,⟨h3.os,h3.tape,h3.output,h3.size,h3.block⟩⟩
     clear HROW HPIV HINJ htk
     go_wp2
     go_region_held3 (fun w'=>w'.cell? ⟨N,0,none⟩=some (.int .i64 q)∧w'.cell? ⟨R,2,none⟩=some (.int .i64 val)) (first | go_keep | exact KS.out)
      ((go_at_call 101; refine (HCL.out).mono ?_; rintro e w2 ⟨rfl,ho2,ht2⟩; have KS:Hid (w2.cell? ⟨N,0,none⟩=some (.int .i64 q)∧w2.cell? ⟨R,2,none⟩=some (.int .i64 val)):=⟨(ht2.cell hbN.symm).trans hcN,(ht2.cell hbR.symm).trans e2⟩))
     have S1:Hid (RS B R n c (matL k (k+f) (t+1) mat nm) piv val (-sgn) go capo (.slice po k pc) (fun i=>bs (sw k (k+f) i)) (fun i=>caps (sw k (k+f) i)) w2):=by
      exact (HRS.out.clear (i:=t) htn ht2 ho2).congr fun i _ j _=>matL_step HTK.out i j
     have S2:Hid (Below B w w2):=HBL.out.trans ⟨ht2.os,ht2.tape,ht2.output,by rw [ht2.size]; exact Nat.le_refl _,fun x hx=>ht2.block x (by omega)⟩
     have S3:=KS.out.1
     have S4:N < w2.heap.size:=by rw [ht2.size]; exact hNl
     clear ho2 ht2 KS HCL
     go_wp2
     go_roundw
     case rel=>exact ⟨t+1,by omega,by go_num,S1.out,S2.out,S3,S4⟩
     case measure=>simp [intOf]; omega
   ·have htn':t=n:=by omega
    have esw:sw k (k+f) k=(k+f):=by unfold sw; simp
    have x0:=ebs k hkn q hq
    have f3:=efR 2
    have f4:=efR 1
    simp only [esw] at x0
    have x1:matL k (k+f) t mat nm k q=mat (k+f) q:=by unfold matL; rw [if_pos rfl]
    rw [x1] at x0
    have HPW:Hid (wr.ownsRow B 3 1 (.slice po k pc) k (ints piv)):=by have:=HRS.out.piv; rw [←HKL.out] at this; exact this
    have hbR:bs (k+f)≠R:=by have:=(HRS.out.typed.2.1 k hkn).2.1; simpa only [esw] using this
    have HFM:Hid (RS B R n c (fun i j=>if i=k then mat (k+f) j else nm i j) piv val (-sgn) go capo (.slice po k pc) (fun i=>bs (sw k (k+f) i)) (fun i=>caps (sw k (k+f) i)) wr):=
     HRS.out.congr fun i hi j _=>by unfold matL; by_cases e:i=k <;> simp [e]; intro h1; omega
    obtain ⟨vq,hvq⟩:∃vq,mat (k+f) q=vq:=⟨_,rfl⟩
    have HVQ:Hid (mat (k+f) q=vq):=hvq
    rw [hvq] at x0
    clear hvq
    clear efR ego efgo ebs hrs hbel esw x1 htn' e0 e3
    have HPO:Hid (∀g,(Value.slice po k pc).ownBlock=some g→B≤g):=fun g hg=>(HFM.out.typed.2.2.2 g hg).2.2.1
    go_wp2
    obtain ⟨Z,hZ⟩:∃Z,Z=wr.setCell ⟨R,2,none⟩ (.int .i64 vq):=⟨_,rfl⟩
    have z1:Z.cell? ⟨R,1,none⟩=some (.slice po k pc):=by rw [hZ]; rw [World.cell?_setCell_other]; exact e1; simp
    have z2:Z.cell? ⟨N,0,none⟩=some (.int .i64 q):=by rw [hZ]; rw [World.cell?_setCell_other]; exact hcN; simp
    have HZO:Hid (Z.ownsRow B 3 1 (.slice po k pc) k (ints piv)):=by
     rw [hZ]; exact ownsRow_setCell_other HPW.out (fun e=>(HFM.out.typed.2.2.2 R e).1 rfl) _
    have hzs:Z.heap.size=wr.heap.size:=by rw [hZ]; simp [World.setCell]
    have HZE:Hid (Z=wr.setCell ⟨R,2,none⟩ (.int .i64 vq)):=hZ
    rw [←hZ]
    clear hZ
    obtain ⟨i3,hi3,hz30,hz31,hz32⟩:∃i,Tryz.prog.info? 3=some i∧i.zero=some (.int .i64 0)∧i.size=1∧i.bytes=8:=⟨_,by rfl,by rfl,by rfl,by rfl⟩
    have hkm:k+1≤maxLen:=by unfold maxLen; omega
    have hBZ:B≤Z.heap.size:=by omega
    have hRZ:R < Z.heap.size:=by omega
    have HZS:Hid (Z.heap.size=wr.heap.size):=hzs
    have HFL:Hid (∀w3 vo vc o,w3.ownsRow B 3 1 (.slice vo (k+1) vc) (k+1) (ints piv ++ [.int .i64 q])→(Z.drew.alloc o).grownBy w3 (Value.slice po k pc).ownBlock→((Value.slice vo (k+1) vc).ownBlock=(Value.slice po k pc).ownBlock∨(Value.slice vo (k+1) vc).ownBlock=some (Z.drew.alloc o).heap.size)→
      RS B R n c (fun i j=>if i=k then mat (k+f) j else nm i j) (piv ++ [(q:Int)]) vq (-sgn) go capo (.slice vo (k+1) vc) (fun i=>bs (sw k (k+f) i)) (fun i=>caps (sw k (k+f) i)) (w3.setCell ⟨R,1,none⟩ (.slice vo (k+1) vc))∧w3.cell? ⟨R,1,none⟩=some (.slice po k pc)∧w3.frozen? ⟨R,1,none⟩=false∧Below B w w3):=by
     intro w3 vo vc o ho hg hat
     have hB3:Below B w w3:=by
      have hb1:Below B w Z:=by rw [HZE.out]; exact HBL.out.setCell (by exact hBR) _
      have hb2:Below B w (Z.drew.alloc o):=hb1.drew.alloc (by simpa using hBZ) _
      exact hb2.grown hg (by simp; omega) HPO.out
     rw [HZE.out] at hg hat
     have:=HFM.out.last (q:=q) (v':=vq) (w3:=w3) (o:=o) (by rw [←HKL.out]; exact ho) (by
      exact ⟨hg.os,hg.tape,hg.output,hg.size,hg.block⟩) (by rcases hat with e | e; exact Or.inl e; exact Or.inr (Or.inr e))
     exact ⟨this.1,this.2.1,this.2.2,hB3⟩
    clear hzs
    go_region_law (refine step_append_at (by rfl) _ _ 22 (by rfl) B 3 i3 (.int .i64 0) 1 8 Tryz.underlying22 hi3 hz30 hz31 hz32 rfl (by decide) _ _ _ (by rfl) (HZO.out.drew.alloc _) ⟨Z.heap.size,0,none⟩ 1 1 [.int .i64 q] (by rfl) rfl (one_new _ _ _) (one_int _) hkm (by omega) (by simp; omega) ?_; intro v' w3 ho hg hat; obtain ⟨vo,vc,hv'⟩:=owns_form ho; subst hv'; have FF:Hid _:=HFL.out w3 vo vc _ ho hg hat; have KS1:=FF.out.2.1; have KS2:=FF.out.2.2.1)
    all_goals (go_wp2; go_end0; exact ⟨rfl,⟨_,_,_,by have h:=FF.out.1; rw [←HVQ.out] at h; first | exact h | (rw [if_neg HF0.out]; exact h)⟩,FF.out.2.2.2.setCell (by exact hBR) _⟩)
end Go.Proofs.YtdanomklbiidaaaGreatDoor
