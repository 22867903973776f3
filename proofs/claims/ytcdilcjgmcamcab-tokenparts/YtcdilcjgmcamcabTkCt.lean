/- cuts, cut. -/
import Derived.Test.YtcdilcjgmcamcabTkN
import Derived.Test.YtcdilcjgmcamcabTkRg
import Derived.Test.YtcdilcjgmcamcabTkSm
namespace Go.Proofs.Ytcdilcjgmcamcab
open Go.RowKit Go.Maps Classical

set_option maxRecDepth 100000 in
set_option maxHeartbeats 4000000 in
theorem cuts_calls (s : ByteArray) (w : World) : Calls Try.prog 20 #[.string s] w fun e w' => e = .returned (.bool true) ∧ Below w.heap.size w w' := by
  have H1 := hide (tokens_calls s w)
  have H2 := hide (fun W => rtokens_calls s W)
  generalize tokL s.data.toList = T at *
  obtain ⟨ts, er, ln, pl⟩ := T
  simp only at H1 H2
  go_enter Try.func20, Try.ntmps20
  go_wp2_with fail
  refine (unhide H1).mono ?_
  rintro e w1 ⟨v1, rfl, hO1, hb1⟩
  obtain ⟨a1, c1, hv1⟩ := hO1.shape
  subst hv1
  have HO1 := hide hO1
  clear hO1 H1
  go_wp2_with fail
  refine (unhide H2 w1).mono ?_
  rintro e w2 ⟨v2, rfl, hO2, hb2⟩
  obtain ⟨a2, c2, hv2⟩ := hO2.shape
  subst hv2
  have HS := hide (same_calls (HO1.out.below hb2).isTk hO2.isTk)
  have hdd : decide (ts = ts) = true := decide_eq_true rfl
  rw [hdd] at HS
  have hb12 := hb1.trans (hb2.mono hb1.size)
  have q1 : (er == er) = true := by simp
  have q2 : (ln == ln) = true := by simp
  have q3 : (pl == pl) = true := by simp
  generalize ts.length = n at *
  clear hO2 HO1 hdd
  go_wp2_with fail
  refine (unhide HS).mono ?_
  rintro e w3 ⟨rfl, hb3⟩
  go_wp2
  go_ret
  exact ⟨rfl, hb12.trans (hb3.mono hb12.size)⟩
def cutB (s : ByteArray) (n : Nat) : ByteArray := if n < s.size then s.extract 0 n else s
theorem cutB_le (s : ByteArray) (n : Nat) : (cutB s n).size ≤ n := by
  unfold cutB
  split
  · rw [ByteArray.size_extract]; omega
  · omega
set_option maxHeartbeats 1000000 in
theorem cut_calls (s : ByteArray) (n : Nat) (w : World) : Calls Try.prog 12 #[.string s, .int .i64 (n : Int)] w fun e w' => e = .returned (.string (cutB s n)) ∧ w' = w := by
  by_cases h : n < s.size
  · have HS : Hid (cutB s n = s.extract 0 n) := by show _ = _; unfold cutB; rw [if_pos h]
    have hI : (n : Int) < (s.size : Int) := by omega
    have hI2 : (n : Int) ≤ (s.size : Int) := by omega
    go_enter Try.func12, Try.ntmps12
    go_wp2
    go_ret
    exact ⟨by rw [HS.out]; rfl, rfl⟩
  · have HS : Hid (cutB s n = s) := by show _ = _; unfold cutB; rw [if_neg h]
    have hI : ¬ (n : Int) < (s.size : Int) := by omega
    go_enter Try.func12, Try.ntmps12
    go_wp2
    go_ret
    exact ⟨by rw [HS.out]; rfl, rfl⟩
end Go.Proofs.Ytcdilcjgmcamcab
