/- prints, Told, many. -/
import Derived.Test.YtcdilcjgmcamcabTkPr
import Derived.Test.YtcdilcjgmcamcabTkHa
import Derived.Test.YtcdilcjgmcamcabTkCt
namespace Go.Proofs.Ytcdilcjgmcamcab
open Go.RowKit Go.Maps Classical

set_option maxRecDepth 100000 in
set_option maxHeartbeats 4000000 in
theorem prints_calls {w : World} {v : Value} {l : List Tok} (h : IsTk w v l) (hl : l.length ≤ 1000000000) (hT : (printL l false).length ≤ 100000000000) : Calls Try.prog 21 #[v] w fun e w' => e = .returned (.bool true) ∧ Below w.heap.size w w' := by
  obtain ⟨a, c, rfl, hlc, hcm, _, _⟩ := id h
  have HL := hide (laid_calls h hl)
  have HT := hide h
  have HP : Hid (∀ (W : World) (v : Value), IsTk W v l → Calls Try.prog 9 #[v] W fun e w' => e = .returned (.tuple #[.string (printR l).1, .int .i64 (printR l).2]) ∧ Below W.heap.size W w') := fun W v hv => print_calls hv
  have HR : Hid (∀ (W : World) (v : Value), IsTk W v l → Calls Try.prog 16 #[v] W fun e w' => e = .returned (.tuple #[.string (printR l).1, .int .i64 (printR l).2]) ∧ Below W.heap.size W w') := fun W v hv => rprint_calls hv hT
  generalize hn : l.length = n at *
  have HN := hide hn
  generalize printR l = R at *
  obtain ⟨ps, pe⟩ := R
  simp only at HP HR
  have q1 : (pe == pe) = true := by simp
  have q2 : (ps.toList == ps.toList) = true := by simp
  clear h hn hT
  go_enter Try.func21, Try.ntmps21
  go_wp2_with fail
  refine (unhide HL).mono ?_
  rintro e w1 ⟨g, c1, rfl, hO1, hb1⟩
  have hI1 : IsTk w1 (.slice (some ⟨g, 0, none⟩) n c1) l := by
    have := OwnT.isTkPre (l := l) (m := mks) (by rw [HN.out]; exact hO1)
    rw [HN.out] at this
    exact this
  have HP1 := hide (unhide HP w1 _ hI1)
  have HO1 := hide hO1
  have HT1 := hide (HT.out.below hb1)
  clear hO1 hI1 HL HT
  go_wp2_with fail
  refine (unhide HP1).mono ?_
  rintro e w2 ⟨rfl, hb2⟩
  have HR2 := hide (unhide HR w2 _ (HT1.out.below hb2))
  clear HP1
  go_wp2_with fail
  refine (unhide HR2).mono ?_
  rintro e w3 ⟨rfl, hb3⟩
  have hb13 := hb2.trans (hb3.mono hb2.size)
  have HI3 := hide (intact_calls (HO1.out.below hb13) HN.out (HT1.out.below hb13))
  have hb03 := hb1.trans (hb13.mono hb1.size)
  clear HR2 HO1 HT1
  go_wp2_with fail
  refine (unhide HI3).mono ?_
  rintro e w4 ⟨rfl, hb4⟩
  go_wp2
  go_ret
  exact ⟨rfl, hb03.trans (hb4.mono hb03.size)⟩
def toldL : List Tok := [⟨1, ⟨#[97]⟩, 0, 0⟩, ⟨2, ⟨#[98, 34]⟩, 0, 0⟩, ⟨7, ⟨#[]⟩, 0, 0⟩]
set_option maxRecDepth 100000 in
set_option maxHeartbeats 4000000 in
theorem told_calls (w : World) : Calls Try.prog 8 #[] w fun e w' => e = .returned (.bool true) ∧ Below w.heap.size w w' := by
  have H1 := hide (cuts_calls ⟨#[111, 117, 116, 32, 97, 32, 61, 32, 105, 110, 40, 98, 41, 32, 35, 32, 99]⟩ w)
  have H2 := hide (fun W => cuts_calls ⟨#[97, 10, 43]⟩ W)
  have H3 := hide (fun W => prints_calls (isTk_lit W toldL (by decide)) (by decide) (by decide))
  have H4 := hide (fun W => quote_calls ⟨#[0, 34]⟩ (by decide) W)
  rw [show bs (quoteL (⟨#[0, 34]⟩ : ByteArray).data.toList) = ⟨#[34, 92, 120, 48, 48, 92, 34, 34]⟩ by decide] at H4
  go_enter Try.func8, Try.ntmps8
  go_wp2_with fail
  refine (unhide H1).mono ?_
  rintro e w1 ⟨rfl, hb1⟩
  go_wp2_with fail
  refine (unhide H2 w1).mono ?_
  rintro e w2 ⟨rfl, hb2⟩
  have hb12 := hb1.trans (hb2.mono hb1.size)
  go_wp2_with fail
  refine (unhide H3 w2).mono ?_
  rintro e w3 ⟨rfl, hb3⟩
  have hbn := (Below.refl w2.heap.size w2).alloc (Nat.le_refl _) (.cells (tkV toldL).toArray 26)
  have hb13 := (hb12.trans (hbn.mono hb12.size)).trans (hb3.mono (Nat.le_trans hb12.size hbn.size))
  clear hbn hb3
  go_wp2_with fail
  refine (unhide H4 w3).mono ?_
  rintro e w4 ⟨rfl, hb4⟩
  go_wp2
  go_ret
  exact ⟨rfl, hb13.trans (hb4.mono hb13.size)⟩
/-- So many times the same bytes. -/
def repL (l : List UInt8) (n : Nat) : List UInt8 := (List.replicate n l).flatten
theorem repL_succ (l : List UInt8) (n : Nat) : repL l (n + 1) = repL l n ++ l := by
  unfold repL; rw [List.replicate_succ']; simp
theorem repL_len (l : List UInt8) (n : Nat) : (repL l n).length = n * l.length := by
  unfold repL; simp
set_option maxRecDepth 100000 in
set_option maxHeartbeats 4000000 in
theorem many_calls (s : ByteArray) (n : Nat) (hn : n ≤ 1000000) (hs : s.size ≤ 1000) (w : World) : Calls Try.prog 14 #[.string s, .int .i64 (n : Int)] w fun e w' => e = .returned (.string (bs (repL s.data.toList n))) ∧ Below w.heap.size w w' := by
  go_enter Try.func14, Try.ntmps14
  go_wp2_with fail
  go_loopw [5, 6] (fun ov iv wq => ∃ i : Nat, i ≤ n ∧ iv = .int .i64 (i : Int) ∧ Hid (Own8 wq w.heap.size ov (iL (repL s.data.toList i))) ∧ Below w.heap.size w wq) (fun _ iv _ => n - (intOf iv).toNat)
  case atStart => exact ⟨0, by omega, rfl, Own8.nil _ _, Below.refl _ _⟩
  case round =>
    rename World => w3
    obtain ⟨i, hin, rfl, HB, hbw⟩ := hrel
    obtain ⟨a8, n8, c8, hv8⟩ := HB.out.shape
    subst hv8
    by_cases hlt : i < n
    · have hI : (i : Int) < (n : Int) := by omega
      have hLL : (repL s.data.toList i).length + s.size ≤ 140737488355328 := by
        rw [repL_len, len_data]
        have : i * s.size ≤ 1000000 * 1000 := Nat.mul_le_mul (by omega) hs
        omega
      have HLL := hide hLL
      have hsz3 := hbw.size
      have HST := hide (repL_succ s.data.toList i)
      clear hLL
      go_wp2_with (first | (at_builtin; refine wpList_appSt rfl (.tmp 12) (.tmp 13) rfl rfl HB.out rfl HLL.out hsz3 ?_; intro v7 w7 hO7 hg7; (have hb7 := below8 hbw HB.out hg7); (have HO7 := hide hO7); (obtain ⟨a7, n7, c7, hv7⟩ := hO7.shape); subst hv7; clear hO7 hg7))
      rw [← HST.out] at HO7
      go_roundw
      case rel => exact ⟨i + 1, by omega, by go_num, HO7, hb7⟩
      case measure => simp [intOf]; omega
    · have hI : ¬ (i : Int) < (n : Int) := by omega
      have hie : i = n := by omega
      have HE : Hid (bs (repL s.data.toList n) = bs (repL s.data.toList i)) := by show _ = _; rw [hie]
      have hcv := conv_isB HB.out.isB
      rw [mkS_iL] at hcv
      clear hie
      generalize bs (repL s.data.toList i) = pb at *
      go_wp2
      try rw [Exit.noGoto_ret]
      go_ret
      exact ⟨by rw [HE.out]; rfl, hbw⟩
end Go.Proofs.Ytcdilcjgmcamcab
