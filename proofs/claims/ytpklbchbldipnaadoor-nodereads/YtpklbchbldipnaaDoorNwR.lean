/- NodeReads: the walk. -/
import Derived.Test.YtpklbchbldipnaaDoorNAj
namespace Go.Proofs.YtpklbchbldipnaaDoor
open Go.RowKit Go.Maps Classical

set_option maxRecDepth 100000 in
set_option maxHeartbeats 4000000 in
theorem nodeReads_walk {w : World} {v : Value} {xs : List Int} (h : IsB w v xs) (hT : Tabs w) : Calls Tryd.prog 4 #[v] w fun e w' => e = .returned (.bool true) ∧ Below w.heap.size w w' := by
  obtain ⟨a, n, c, rfl⟩ := h.shape
  have HTL := hide (ntold_calls hT)
  have HH := hide h
  clear h hT
  go_enter Tryd.func4, Tryd.ntmps4
  go_wp2_with fail
  refine (unhide HTL).mono ?_
  rintro e w1 ⟨rfl, hb1⟩
  have HCU := hide (cut_calls (HH.out.below hb1) 90000 (by decide))
  go_wp2_with fail
  refine (unhide HCU).mono ?_
  rintro e w2 ⟨⟨m, rfl, hmn, hc2⟩, hw2⟩
  obtain rfl := hw2.symm
  have hl2 : (xs.take 90000).length ≤ 90000 := by rw [List.length_take]; omega
  generalize xs.take 90000 = ys at *
  have HLA := hide (laid_calls hc2 (by omega))
  have HI := hide hc2
  clear hw2 hc2 HCU HTL
  go_wp2_with fail
  refine (unhide HLA).mono ?_
  rintro e w3 ⟨g, c3, rfl, hld, hb3⟩
  have HDE := hide (decode_calls hld.isB)
  obtain ⟨D, hD⟩ : ∃ D, decL nbL ys = D := ⟨_, rfl⟩
  rw [hD] at HDE
  go_wp2_with fail
  refine (unhide HDE).mono ?_
  rintro e w4 ⟨u4, rfl, ho4, hb4⟩
  have hb24 := hb3.trans (hb4.mono hb3.size)
  have HRE := hide (ddecode_calls (HI.out.below hb24))
  rw [hD] at HRE
  obtain ⟨a4, c4, hu4⟩ := ho4.shape
  subst hu4
  go_wp2_with fail
  refine (unhide HRE).mono ?_
  rintro e w5 ⟨u5, rfl, ho5, hb5⟩
  obtain ⟨a5, c5, hu5⟩ := ho5.shape
  subst hu5
  have hb25 := hb24.trans (hb5.mono hb24.size)
  have hse := esame_calls (ho4.below hb5).isEn ho5.isEn
  rw [decide_eq_true rfl] at hse
  have HSE := hide hse
  have HLD := hide ((hld.below hb4).below hb5)
  have HI5 := hide (HI.out.below hb25)
  have hml := HI.out.lenEq
  have hml2 : m ≤ 90000 := by omega
  have hqq : (D.2 == D.2) = true := by simp
  generalize D.1.length = n1 at *
  generalize D.2 = q at *
  clear hse HDE HRE HLA ho4 ho5 hld hb3 hb4 hb24 hml hD
  go_wp2_with (first
    | (go_at_call 23; refine (unhide HSE).mono ?_; rintro e w6 ⟨rfl, hb6⟩; have HIN := hide (intact_calls (HLD.out.below hb6) (HI5.out.below hb6) (by omega)))
    | (go_at_call 24; refine (unhide HIN).mono ?_; rintro e w7 ⟨rfl, hw7⟩; have hb7 := below_same hw7))
  go_ret
  refine ⟨rfl, ?_⟩
  have hb27 := (hb25.trans (hb6.mono hb25.size))
  have hb28 := hb27.trans (hb7.mono hb27.size)
  exact hb1.trans (hb28.mono hb1.size)
end Go.Proofs.YtpklbchbldipnaaDoor
