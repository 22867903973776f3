/- PathTexts: the walk. -/
import Derived.Test.YtmogbkgchhplkaaDoorPaTold
namespace Go.Proofs.YtmogbkgchhplkaaDoor
open Go.RowKit

set_option maxRecDepth 100000 in
set_option maxHeartbeats 8000000 in
theorem texts_walk {v : Value} {l : List ByteArray} (w : World) (hv : IsS w v l) (hM : Mx w) : Calls Tryd.prog 4 #[v] w fun e w' => e = .returned (.bool true) ∧ Below w.heap.size w w' := by
  have HCN := hide (cutNames_calls hv)
  obtain ⟨av, cv, rfl, _, _, _, _⟩ := hv
  have hl40 := cutN_len l
  have HLE : Hid (∀ x ∈ cutN l, x.size ≤ 2000) := cutN_le l
  generalize cutN l = k at *
  have HT : Hid (∀ W, Mx W → Calls Tryd.prog 10 #[] W fun e w' => e = .returned (.bool true) ∧ Below W.heap.size W w') := told_calls
  have HM := hide hM
  clear hM
  go_enter Tryd.func4, Tryd.ntmps4
  go_wp2_with fail
  refine (unhide HCN).mono ?_
  rintro e w1 ⟨u, rfl, hrow, hb1⟩
  have HIS := hide hrow.isS
  clear hrow
  obtain ⟨aa, ca, e1, hla, hma, _, hca⟩ := HIS.out
  subst e1
  have HCA := hide hca
  obtain ⟨n, hn⟩ : ∃ n, n = k.length := ⟨_, rfl⟩
  rw [← hn] at hla hl40 HIS ⊢
  have HN := hide hn
  clear hca hn
  go_wp2_with fail
  go_loopw [3] (fun iv W => ∃ (i : Nat), i ≤ n ∧ iv = .int .i64 (i : Int) ∧ Below w1.heap.size w1 W) (fun i _ => n - (intOf i).toNat)
  case atStart => exact ⟨0, by omega, rfl, Below.refl _ _⟩
  case round =>
    obtain ⟨i, hin, rfl, hbw⟩ := hrel
    by_cases hlt : i < n
    · have h1' : i < k.length := by rw [← HN.out]; exact hlt
      obtain ⟨b1, o1, rfl, hc1⟩ := unhide HCA (by rw [← HN.out]; omega)
      have hx := hc1 i h1'
      have hx2 := (hbw.cell (p := ⟨b1, o1 + i, none⟩) (World.block_lt_of_cell? w1 _ hx)).trans hx
      have hsz := unhide HLE _ (mem_getD h1')
      have q1 : (i : Int) < (n : Int) := by omega
      clear hx hc1 h1'
      generalize k.getD i default = x at *
      have HNA : Hid (∀ W, Below wr.heap.size wr W → Calls Tryd.prog 12 #[.string x] W fun e w' => e = .returned (.bool (nameB x)) ∧ Below wr.heap.size wr w') := fun W hW => (name_calls x (by omega) W).mono fun e w' ⟨h1, h2⟩ => ⟨h1, hW.trans (h2.mono hW.size)⟩
      have HNR : Hid (∀ W, Calls Tryd.prog 13 #[.string x] W fun e w' => e = .returned (.bool (nameB x)) ∧ w' = W) := fun W => rname_calls x (by omega) (nameB x) (name_iff x) W
      have HSS : Hid (∀ W, Below wr.heap.size wr W → Below wr.heap.size wr W ∧ W.cell? ⟨b1, o1 + i, none⟩ = some (.string x)) := fun W hW => ⟨hW, (hW.cell (p := ⟨b1, o1 + i, none⟩) (World.block_lt_of_cell? wr _ hx2)).trans hx2⟩
      have hqq : (nameB x != nameB x) = false := by simp
      generalize nameB x = q at *
      clear hx2
      go_wp2_with fail
      focus (go_region_held3 (fun W => Below wr.heap.size wr W ∧ W.cell? ⟨b1, o1 + i, none⟩ = some (.string x))
        ((refine unhide HSS _ ?_; repeat (first | assumption | exact Below.refl _ _ | refine Below.drew ?_)))
        (first
          | (go_at_call 12; refine (unhide HNA _ (by repeat (first | assumption | exact Below.refl _ _ | refine Below.drew ?_))).mono ?_; rintro e w9 ⟨rfl, hb9⟩)
          | (go_at_call 13; refine (unhide HNR _).mono ?_; rintro e wq ⟨rfl, hwq⟩; obtain rfl := hwq.symm; clear hwq)))
      go_wp2
      go_roundw
      case rel => exact ⟨i + 1, by omega, by go_num, hbw.trans (hb9.mono hbw.size)⟩
      case measure => simp [intOf]; omega
    · have hM2 := hide (((HM.out).below hb1).below hbw)
      have HT2 := hide (unhide HT wr hM2.out)
      have HI2 := hide ((HIS.out).below hbw)
      have HX : Hid (∀ W, IsS W (.slice aa n ca) k → Calls Tryd.prog 15 #[.slice aa n ca] W fun e w' => e = .returned (.bool true) ∧ Below W.heap.size W w') := fun W h => texts_calls h HLE.out (by rw [← HN.out]; omega)
      go_wp2_with fail
      refine (unhide HT2).mono ?_
      rintro e w2 ⟨rfl, hb2⟩
      have HX2 := hide (unhide HX w2 ((HI2.out).below hb2))
      go_wp2_with fail
      refine (unhide HX2).mono ?_
      rintro e w3 ⟨rfl, hb3⟩
      go_wp2
      go_ret
      have h1 := hb1.trans (hbw.mono hb1.size)
      have h2 := h1.trans (hb2.mono h1.size)
      exact ⟨rfl, h2.trans (hb3.mono h2.size)⟩
end Go.Proofs.YtmogbkgchhplkaaDoor
