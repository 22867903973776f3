/- TokenPrints: the walk. -/
import Derived.Test.YtcdilcjgmcamcaaTkV5
import Derived.Test.YtcdilcjgmcamcaaTkV2
namespace Go.Proofs.Ytcdilcjgmcamcaa
open Go.RowKit Go.Maps Classical

set_option maxRecDepth 100000 in
set_option maxHeartbeats 8000000 in
theorem tokenPrints_walk {v : Value} {l0 : List Tok} (w : World) (h0 : IsTk w v l0) (hsz : ∀ t ∈ l0, t.text.size ≤ 1048576) : Calls Try.prog 4 #[v] w fun e w' => e = .returned (.bool true) ∧ Below w.heap.size w w' := by
  obtain ⟨a, c, rfl, hlc, hcm, _, _⟩ := id h0
  have H1 := hide (told_calls w)
  have HT0 := hide h0
  have HSZ := hide hsz
  generalize hn0 : l0.length = n0 at *
  have HN0 := hide hn0
  clear h0 hn0 hsz
  go_enter Try.func4, Try.ntmps4
  go_wp2_with fail
  refine (unhide H1).mono ?_
  rintro e w1 ⟨rfl, hb1⟩
  have HT1 := hide (HT0.out.below hb1)
  clear HT0 H1
  go_upto_if 9 with fail
  go_cut [0] (fun x wc => ∃ (n : Nat) (l : List Tok), x = .slice a n c ∧ IsTk w1 (.slice a n c) l ∧ l.length = n ∧ n ≤ c ∧ n ≤ 3000 ∧ Hid (∀ t ∈ l, t.text.size ≤ 1048576) ∧ w1 = wc)
  case first =>
    by_cases h3 : 3000 < n0
    · have j3 : (3000 : Int) < (n0 : Int) := by omega
      have j4 : (3000 : Int) ≤ (c : Int) := by omega
      go_wp2
      go_meet
      exact ⟨3000, l0.take 3000, rfl, HT1.out.pre (by omega), by rw [List.length_take, HN0.out]; omega, by omega, by omega, fun t ht => HSZ.out t (List.mem_of_mem_take ht), rfl⟩
    · have j3 : ¬ (3000 : Int) < (n0 : Int) := by omega
      go_wp2
      go_meet
      exact ⟨n0, l0, rfl, HT1.out, HN0.out, by omega, by omega, HSZ, rfl⟩
  case rest =>
  obtain ⟨n, l, rfl, hI, hln, hnc, hn3, HS, rfl⟩ := hcut
  clear HT1 HN0 hlc HSZ
  have HT := hide hI
  have HN := hide hln
  clear hI hln
  go_wp2_with fail
  go_loopw [3] (fun iv wq => ∃ i : Nat, i ≤ n ∧ iv = .int .i64 (i : Int) ∧ Below w1.heap.size w1 wq) (fun iv _ => n - (intOf iv).toNat)
  case atStart => exact ⟨0, by omega, rfl, Below.refl _ _⟩
  case round =>
    rename World => w4
    obtain ⟨i, hin, rfl, hbw⟩ := hrel
    by_cases hlt : i < n ∧ i < 50
    · obtain ⟨hlt, h50⟩ := hlt
      have hI : (i : Int) < (n : Int) := by omega
      have hI5 : (i : Int) < 50 := by omega
      obtain ⟨b, o, rfl, x0, x1, x2, x3⟩ := HT.out.at hbw (i := i) (by rw [HN.out]; exact hlt)
      generalize (l.getD i .nul).text = t at *
      have HC := hide (fun W => cut_calls t 2000 W)
      have hcl := cutB_le t 2000
      have HQ := hide (fun W => quote_calls (cutB t 2000) (by omega) W)
      have HR := hide (fun W => rquote_calls (cutB t 2000) (by omega) W)
      have q : ((bs (quoteL (cutB t 2000).data.toList)).toList != (bs (quoteL (cutB t 2000).data.toList)).toList) = false := by simp
      generalize bs (quoteL (cutB t 2000).data.toList) = qq at *
      generalize cutB t 2000 = ct at *
      go_wp2_with fail
      refine (unhide HC w4).mono ?_
      rintro e w5 ⟨rfl, hw5⟩
      obtain rfl := hw5.symm
      clear hw5
      go_wp2_with fail
      refine (unhide HQ w4).mono ?_
      rintro e w5 ⟨rfl, hb5⟩
      have hb45 := hbw.trans (hb5.mono hbw.size)
      go_wp2_with fail
      refine (unhide HR w5).mono ?_
      rintro e w6 ⟨rfl, hb6⟩
      have hb46 := hb45.trans (hb6.mono hb45.size)
      go_wp2
      go_roundw
      case rel => exact ⟨i + 1, by omega, by go_num, hb46⟩
      case measure => simp [intOf]; omega
    · have h1 := printL_bound l false 1048576 HS.out
      rw [HN.out] at h1
      have h2 : n * (4 * 1048576 + 4) ≤ 3000 * (4 * 1048576 + 4) := Nat.mul_le_mul_right _ hn3
      have HP := hide (prints_calls (HT.out.below hbw) (by rw [HN.out]; omega) (by omega))
      clear h1 h2
      by_cases h1 : i < n
      · have hI : (i : Int) < (n : Int) := by omega
        have hI5 : ¬ (i : Int) < 50 := by omega
        go_wp2_with fail
        refine (unhide HP).mono ?_
        rintro e w5 ⟨rfl, hb5⟩
        have hb05 := (hb1.trans (hbw.mono hb1.size)).trans (hb5.mono (Nat.le_trans hb1.size hbw.size))
        go_wp2
        go_ret
        exact ⟨rfl, hb05⟩
      · have hI : ¬ (i : Int) < (n : Int) := by omega
        go_wp2_with fail
        refine (unhide HP).mono ?_
        rintro e w5 ⟨rfl, hb5⟩
        have hb05 := (hb1.trans (hbw.mono hb1.size)).trans (hb5.mono (Nat.le_trans hb1.size hbw.size))
        go_wp2
        go_ret
        exact ⟨rfl, hb05⟩
end Go.Proofs.Ytcdilcjgmcamcaa
