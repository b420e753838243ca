import Derived.Test.YtdbfkjnnlomklaaWnA
import Derived.Test.YtdbfkjnnlomklaaWn2
import Derived.Test.YtdbfkjnnlomklaaWn3
import Derived.Test.YtdbfkjnnlomklaaWn4
import Derived.Test.YtdbfkjnnlomklaaWnB
import Derived.Test.YtdbfkjnnlomklaaWn6
import Derived.Test.YtdbfkjnnlomklaaWnC
import Derived.Test.YtdbfkjnnlomklaaDkA
import Derived.Test.YtdbfkjnnlomklaaDoA
/- All squares of names in every order are good. -/
namespace Go.Proofs.Ytdbfkjnnlomklaa

theorem mem_part {ps : List (UInt8 × UInt8)} {i a b : Nat} (hi : i < nmL.length) (h : nmL[i] = ps) (h1 : a ≤ i) (h2 : i < a + b) : ps ∈ (nmL.drop a).take b := by
  refine List.mem_take_iff_getElem.2 ⟨i - a, by rw [List.length_drop]; omega, ?_⟩
  rw [List.getElem_drop]
  have : a + (i - a) = i := by omega
  simp only [this]
  exact h

theorem nm_len : nmL.length = 44 := by decide +kernel

theorem gd_all {ps : List (UInt8 × UInt8)} (h : ps ∈ nmL) {o : List Int} (ho : o ∈ ords (mkL ps).length (mkL ps).length []) : Gda (mkL ps).length (pmM o (mkL ps)) (posR (pmM o (mkL ps))) := by
  refine gda_of ?_
  obtain ⟨i, hi, hp⟩ := List.mem_iff_getElem.1 h
  have hl := nm_len
  by_cases h1 : i < 6
  · exact gd_p1 ps (mem_part hi hp (by omega) (by omega)) o ho
  by_cases h2 : i < 8
  · exact gd_p8 ps (mem_part hi hp (by omega) (by omega)) o ho
  by_cases h3 : i < 9
  · exact gd_p9 ps (mem_part hi hp (by omega) (by omega)) o ho
  by_cases h4 : i < 10
  · exact gd_p10 ps (mem_part hi hp (by omega) (by omega)) o ho
  by_cases h5 : i < 11
  · exact gd_p2 ps (mem_part hi hp (by omega) (by omega)) o ho
  by_cases h6 : i < 20
  · exact gd_p3 ps (mem_part hi hp (by omega) (by omega)) o ho
  by_cases h7 : i < 28
  · exact gd_p4 ps (mem_part hi hp (by omega) (by omega)) o ho
  by_cases h8 : i < 31
  · exact gd_p5 ps (mem_part hi hp (by omega) (by omega)) o ho
  by_cases h9 : i < 34
  · exact gd_p11 ps (mem_part hi hp (by omega) (by omega)) o ho
  by_cases h10 : i < 36
  · exact gd_p12 ps (mem_part hi hp (by omega) (by omega)) o ho
  exact gd_p6 ps (mem_part hi hp (by omega) (by omega)) o ho

end Go.Proofs.Ytdbfkjnnlomklaa

/- A good square of a name: its roots by rows and by columns. -/
namespace Go.Proofs.Ytdbfkjnnlomklaa

theorem wg_all {ps : List (UInt8 × UInt8)} (h : ps ∈ nmL) {o : List Int} (ho : o ∈ ords (mkL ps).length (mkL ps).length []) : ∃ d t, Wg (mkL ps).length (pmM o (mkL ps)) (posR (pmM o (mkL ps))) d t := by
  have hgd := gd_all h ho
  have hdp : DuP (mkL ps).length (pmM o (mkL ps)) (ps.map duP) := by
    obtain ⟨i, hi, hp⟩ := List.mem_iff_getElem.1 h
    have hl := nm_len
    by_cases h1 : i < 9
    · exact du_p1 ps (mem_part hi hp (by omega) (by omega)) o ho
    by_cases h2 : i < 11
    · exact du_p2 ps (mem_part hi hp (by omega) (by omega)) o ho
    by_cases h3 : i < 28
    · exact du_p3 ps (mem_part hi hp (by omega) (by omega)) o ho
    exact du_p4 ps (mem_part hi hp (by omega) (by omega)) o ho
  obtain ⟨h1, ⟨o', ho', h2⟩, tl, htl, h3⟩ := hdp
  obtain ⟨hn1, hn2⟩ := du_nm ps h
  rw [← hn2] at ho'
  have hgd2 := gd_all hn1 ho'
  rw [← h2] at hgd2
  have hcl := hgd.g.sq.len
  generalize pmM o (mkL ps) = c at *
  generalize (mkL ps).length = n at *
  have hab : posR (trM c) = abL c := by unfold posR; rw [h1]
  rw [hab] at hgd2
  exact ⟨trM c, fun k => tl.getD k 1, hgd, hgd.rt, hgd2.rt, trM_len c, fun k => tcs_pos n tl htl k, fun r k hr hk => trM_at hr hk, fun r k hr hk => h3 r (by omega) k (by omega)⟩

end Go.Proofs.Ytdbfkjnnlomklaa
