/- PathParses: the walk. -/
import Derived.Test.YtmogbkgchhplkaaDoorPaTold
namespace Go.Proofs.YtmogbkgchhplkaaDoor
open Go.RowKit

set_option maxRecDepth 100000 in
set_option maxHeartbeats 4000000 in
theorem parses_walk (s : ByteArray) (w : World) (hM : Mx w) : Calls Tryd.prog 3 #[.string s] w fun e w' => e = .returned (.bool true) ∧ Below w.heap.size w w' := by
  have HC := hide (cut_calls s w)
  have hs := cutS_le s
  generalize cutS s = c at *
  have HT := hide (told_calls w hM)
  have HP : Hid (∀ W, Mx W → Calls Tryd.prog 11 #[.string c] W fun e w' => e = .returned (.bool true) ∧ Below W.heap.size W w') := fun W h => parses_calls c (by omega) W h
  have HN : Hid (∀ W, Calls Tryd.prog 12 #[.string c] W fun e w' => e = .returned (.bool (nameB c)) ∧ Below W.heap.size W w') := fun W => name_calls c (by omega) W
  have HR : Hid (∀ W, Calls Tryd.prog 13 #[.string c] W fun e w' => e = .returned (.bool (nameB c)) ∧ w' = W) := fun W => rname_calls c (by omega) (nameB c) (name_iff c) W
  have HM := hide hM
  clear hM
  have hqq : (nameB c == nameB c) = true := by simp
  generalize nameB c = q at *
  go_enter Tryd.func3, Tryd.ntmps3
  go_wp2_with fail
  refine (unhide HC).mono ?_
  rintro e w1 ⟨rfl, hw1⟩
  obtain rfl := hw1.symm
  clear hw1
  go_wp2_with fail
  refine (unhide HT).mono ?_
  rintro e w1 ⟨rfl, hb1⟩
  have HP1 := hide (unhide HP w1 ((HM.out).below hb1))
  go_wp2_with fail
  refine (unhide HP1).mono ?_
  rintro e w2 ⟨rfl, hb2⟩
  have hb12 := hb1.trans (hb2.mono hb1.size)
  have HN1 := hide (unhide HN w2)
  go_wp2_with fail
  refine (unhide HN1).mono ?_
  rintro e w3 ⟨rfl, hb3⟩
  have hb13 := hb12.trans (hb3.mono hb12.size)
  have HR1 := hide (unhide HR w3)
  go_wp2_with fail
  refine (unhide HR1).mono ?_
  rintro e w4 ⟨rfl, hw4⟩
  obtain rfl := hw4.symm
  clear hw4
  go_wp2
  go_ret
  exact ⟨by cases q <;> rfl, hb13⟩
end Go.Proofs.YtmogbkgchhplkaaDoor
