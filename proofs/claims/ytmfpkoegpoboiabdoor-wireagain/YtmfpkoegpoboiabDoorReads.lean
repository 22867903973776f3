/- The three Reads' answers, where the answer is known. -/
import Derived.Test.YtmfpkoegpoboiabDoorRBytes
import Derived.Test.YtmfpkoegpoboiabDoorRFixed
namespace Go.Proofs.YtmfpkoegpoboiabDoor
open Go.RowKit

/-- The errors of the three Reads, alone. -/
theorem ruint_e {w : World} {v : Value} {xs : List Int} (h : IsB w v xs) {at_ a b c : Int} (hr : rdU xs at_ = (a, b, c)) :
    Calls Tryd.prog 10 #[v, .int .i64 at_] w fun e w' => e = .returned (.tuple #[.int .u64 a, .int .i64 b, .int .i64 c]) ∧ w' = w := by
  have := ruint_calls h at_
  rwa [hr] at this
theorem rfixed_e {w : World} {v : Value} {xs : List Int} (h : IsB w v xs) {at_ n a b c : Int} (hr : rdF xs at_ n = (a, b, c)) :
    Calls Tryd.prog 12 #[v, .int .i64 at_, .int .i64 n] w fun e w' => e = .returned (.tuple #[.int .u64 a, .int .i64 b, .int .i64 c]) ∧ w' = w := by
  have := rfixed_calls h at_ n
  rwa [hr] at this
theorem rbytes_e {w : World} {v : Value} {xs : List Int} (h : IsB w v xs) (hl : xs.length ≤ 140737488355328) {at_ most b c : Int} {ys : List Int} (hm : most ≤ 9223372036854775807) (hr : rdB xs at_ most = (ys, b, c)) :
    Calls Tryd.prog 13 #[v, .int .i64 at_, .int .i64 most] w fun e w' => ∃ a n cp, e = .returned (.tuple #[.slice a n cp, .int .i64 b, .int .i64 c]) ∧ w'.ownsRow w.heap.size 5 1 (.slice a n cp) ys.length (ys.map (Value.int .u8)) ∧ Below w.heap.size w w' := by
  refine (rbytes_calls h hl at_ most hm).mono ?_
  rintro e w' ⟨u, rfl, hown, hb⟩
  rw [hr] at hown ⊢
  have : ∃ a n cp, u = .slice a n cp := by
    rcases hown.2 with ⟨rfl, _⟩ | ⟨g, cap, cur, rfl, _⟩
    · exact ⟨_, _, _, rfl⟩
    · exact ⟨_, _, _, rfl⟩
  obtain ⟨a, n, cp, rfl⟩ := this
  exact ⟨a, n, cp, rfl, hown, hb⟩

end Go.Proofs.YtmfpkoegpoboiabDoor
