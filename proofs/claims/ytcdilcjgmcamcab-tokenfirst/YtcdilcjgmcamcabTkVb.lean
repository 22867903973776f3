/- TokenFirst: the walk. -/
import Derived.Test.YtcdilcjgmcamcabTkVa
import Derived.Test.YtcdilcjgmcamcabTkV3
import Derived.Deep.DeepCutAuto
namespace Go.Proofs.Ytcdilcjgmcamcab
open Go.RowKit Go.Maps Classical

theorem ba_appF (a b : ByteArray) : (a ++ b).data.toList = a.data.toList ++ b.data.toList := by
  rw [ByteArray.data_append, Array.toList_append]
theorem bs_LF (l : List UInt8) : (bs l).data.toList = l := by unfold bs; simp
set_option maxRecDepth 100000 in
set_option maxHeartbeats 8000000 in
theorem tokenFirst_walk (text more : ByteArray) (n0 : Int) (w : World) : Calls Try.prog 5 #[.string text, .string more, .int .i64 n0] w fun e w' => e = .returned (.bool true) ∧ Below w.heap.size w w' := by
  have HC1 := hide (fun W => cut_calls text 3000 W)
  have HC2 := hide (fun W => cut_calls more 3000 W)
  have HTD := hide (fun W => told_calls W)
  have hl1 := cutB_le text 3000
  have hl2 := cutB_le more 3000
  generalize cutB text 3000 = T at *
  generalize cutB more 3000 = M at *
  have HTK := hide (fun W => tokens_calls T W)
  have HMN : Hid (∀ (n : Nat) W, n ≤ 50 → Calls Try.prog 14 #[.string ⟨#[32, 35, 10]⟩, .int .i64 (n : Int)] W fun e w' => (∃ x : ByteArray, x.data.toList = repL [32, 35, 10] n ∧ x.size ≤ 150 ∧ e = .returned (.string x)) ∧ Below W.heap.size W w') := fun n W hn => (many_calls ⟨#[32, 35, 10]⟩ n (by omega) (by decide) W).mono fun e w' ⟨he, hb⟩ => ⟨⟨_, bs_LF _, (by rw [bs_size0, repL_len]; show n * 3 ≤ 150; omega), he⟩, hb⟩
  have HTN := hide (fun x W => tokens_calls x W)
  have HFL := hide (fun ts e l p h he k hk => first_L (t := T.data.toList) (by rw [len_data]; omega) (ts := ts) (e := e) (l := l) (p := p) h he k hk M.data.toList (by rw [len_data]; omega))
  generalize hTT : tokL T.data.toList = TT at *
  obtain ⟨ts, er, ln, pl⟩ := TT
  simp only at HTK
  have HF2 := hide (fun he k hk => HFL.out ts er ln pl rfl he k hk)
  clear HFL hTT
  go_enter Try.func5, Try.ntmps5
  go_wp2_with fail
  refine (unhide HC1 w).mono ?_
  rintro e w1 ⟨rfl, hw1⟩
  obtain rfl := hw1.symm
  clear hw1
  go_wp2_with fail
  refine (unhide HC2 w).mono ?_
  rintro e w1 ⟨rfl, hw1⟩
  obtain rfl := hw1.symm
  clear hw1 HC1 HC2
  go_upto_region 2 with fail
  go_cut [24] (fun a wc => a = .bool (decide (n0 < 0 ∨ 50 < n0)) ∧ w = wc)
  case first =>
    by_cases h1 : n0 < 0
    · go_wp2
      go_meet
      exact ⟨by simp [h1], rfl⟩
    · go_wp2
      go_meet
      exact ⟨congrArg Value.bool (decide_eq_decide.2 (by omega)), rfl⟩
  case rest =>
  obtain ⟨rfl, rfl⟩ := hcut
  go_upto_if 24 with fail
  go_cut [2] (fun a wc => ∃ n : Nat, a = .int .i64 (n : Int) ∧ n ≤ 50 ∧ w = wc)
  case first =>
    by_cases h1 : n0 < 0 ∨ 50 < n0
    · go_wp2
      go_meet
      exact ⟨3, rfl, by omega, rfl⟩
    · go_wp2
      go_meet
      exact ⟨n0.toNat, by rw [Int.toNat_of_nonneg (by omega)], by omega, rfl⟩
  case rest =>
  obtain ⟨n, rfl, hn, rfl⟩ := hcut
  go_wp2_with fail
  refine (unhide HTK w).mono ?_
  rintro e w1 ⟨v1, rfl, hO1, hb1⟩
  obtain ⟨a1, c1, hv1⟩ := hO1.shape
  subst hv1
  clear hO1 HTK
  generalize ts.length = tn at *
  go_wp2_with fail
  refine (unhide HTD w1).mono ?_
  rintro e w2 ⟨rfl, hb2⟩
  have hb12 := hb1.trans (hb2.mono hb1.size)
  by_cases he : er = 0
  · subst he
    clear HF2
    go_wp2_with fail
    refine (unhide HTD w2).mono ?_
    rintro e w3 ⟨rfl, hb3⟩
    go_wp2
    go_ret
    exact ⟨rfl, hb12.trans (hb3.mono hb12.size)⟩
  · have be : (er == 0) = false := by simpa using he
    have HF3 := hide (HF2.out he n hn).1
    obtain ⟨hl0, hl9⟩ := (HF2.out he n hn).2
    clear HF2 he
    have HM3 := hide (unhide HMN n w2 hn)
    go_wp2_with fail
    refine (unhide HM3).mono ?_
    rintro e w3 ⟨⟨x, hx, hxs, rfl⟩, hb3⟩
    have hb13 := hb12.trans (hb3.mono hb12.size)
    have HT4 := hide (fun W => unhide HTN (((x ++ T) ++ ⟨#[10]⟩) ++ M) W)
    rw [show (((x ++ T) ++ ⟨#[10]⟩) ++ M).data.toList = ((repL [32, 35, 10] n ++ T.data.toList) ++ [10]) ++ M.data.toList by rw [ba_appF, ba_appF, ba_appF, hx], HF3.out] at HT4
    simp only at HT4
    clear hx
    go_wp2_with fail
    refine (unhide HT4 w3).mono ?_
    rintro e w4 ⟨v4, rfl, hO4, hb4⟩
    obtain ⟨a4, c4, hv4⟩ := hO4.shape
    subst hv4
    clear hO4
    go_wp2
    go_ret
    exact ⟨rfl, hb13.trans (hb4.mono hb13.size)⟩
end Go.Proofs.Ytcdilcjgmcamcab
