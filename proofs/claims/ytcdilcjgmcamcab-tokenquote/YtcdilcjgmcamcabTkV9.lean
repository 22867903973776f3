/- TokenQuote: the walk. -/
import Derived.Test.YtcdilcjgmcamcabTkV3
import Derived.Test.YtcdilcjgmcamcabLawTk
namespace Go.Proofs.Ytcdilcjgmcamcab
open Go.RowKit Go.Maps Classical

theorem escB_print (c : UInt8) : ∀ x ∈ escB c, 32 ≤ x.toNat ∧ x.toNat ≤ 126 := by
  have hc := u8_lt c
  have h1 := hexd_nat (n := c.toNat / 16) (by omega)
  have h2 := hexd_nat (n := c.toNat % 16) (by omega)
  unfold escB
  intro x hx
  repeat' split at hx
  all_goals simp only [List.mem_cons, List.not_mem_nil, or_false] at hx
  · rcases hx with rfl | rfl
    · decide
    · omega
  · rcases hx with rfl | rfl <;> decide
  · rcases hx with rfl | rfl | rfl | rfl
    · decide
    · decide
    · split at h1 <;> omega
    · split at h2 <;> omega
  · subst hx; omega
theorem quote_print (l : List UInt8) : ∀ x ∈ quoteL l, 32 ≤ x.toNat ∧ x.toNat ≤ 126 := by
  intro x hx
  unfold quoteL at hx
  rcases List.mem_cons.1 hx with rfl | hx
  · decide
  · rcases List.mem_append.1 hx with hx | hx
    · obtain ⟨c, _, hc⟩ := List.mem_flatMap.1 hx
      exact escB_print c x hc
    · simp only [List.mem_cons, List.not_mem_nil, or_false] at hx
      subst hx; decide
theorem quote_tok (l : List UInt8) (h : (quoteL l).length ≤ 65536) : tokL (quoteL l) = ([⟨2, bs l, 1, 0⟩, ⟨7, noText, 1, ((quoteL l).length : Nat)⟩], 0, 0, 0) := by
  have hl := quote_len l
  unfold tokL
  rw [if_neg (by omega), show st0 = ⟨[], 1, 0, 0, .gap⟩ from rfl, gap_quote]
  unfold addS
  simp only [List.nil_append, Nat.zero_add]
  unfold fin
  simp only
  rw [if_neg (by omega)]
  rfl
theorem quote_first (l : List UInt8) : lk (bs (quoteL l)) 0 = 34 := rfl
theorem bs_L9 (l : List UInt8) : (bs l).data.toList = l := by unfold bs; simp
theorem quote_last (l : List UInt8) : lk (bs (quoteL l)) ((quoteL l).length - 1) = 34 := by
  unfold lk
  rw [bs_L9]
  unfold quoteL
  rw [List.getD_eq_getElem?_getD, ← List.cons_append, List.getElem?_append_right (by simp)]
  simp
theorem quote_at {l : List UInt8} {i : Nat} (h : i < (quoteL l).length) : 32 ≤ (lk (bs (quoteL l)) i).toNat ∧ (lk (bs (quoteL l)) i).toNat ≤ 126 := by
  refine quote_print l _ ?_
  unfold lk
  rw [bs_L9, List.getD_eq_getElem?_getD, List.getElem?_eq_getElem h]
  exact List.getElem_mem h
set_option maxRecDepth 100000 in
set_option maxHeartbeats 8000000 in
theorem tokenQuote_walk (s : ByteArray) (w : World) : Calls Try.prog 4 #[.string s] w fun e w' => e = .returned (.bool true) ∧ Below w.heap.size w w' := by
  have HC := hide (fun W => cut_calls s 16000 W)
  have hcl := cutB_le s 16000
  generalize cutB s 16000 = c at *
  have hcd := len_data c
  have hql := quote_len c.data.toList
  have hq6 := quote_le c.data.toList
  have HQ := hide (fun W => quote_calls c (by omega) W)
  have HTD := hide (fun W => told_calls W)
  have HT := hide (fun W => tokens_calls (bs (quoteL c.data.toList)) W)
  rw [bs_L9, quote_tok _ (by omega), bs_toList] at HT
  simp only at HT
  have hsz : (bs (quoteL c.data.toList)).size = (quoteL c.data.toList).length := bs_size0 _
  have hi0 := index_str (bs (quoteL c.data.toList)) 0 (by omega)
  have hi1 := index_str (bs (quoteL c.data.toList)) ((quoteL c.data.toList).length - 1) (by omega)
  have hp0 : 0 < (bs (quoteL c.data.toList)).size := by omega
  have hj0 : ((((bs (quoteL c.data.toList))[0]'hp0).toNat : Int) != 34) = false := by
    have : (bs (quoteL c.data.toList))[0]'hp0 = 34 := rfl
    rw [this]; rfl
  clear hi0
  rw [quote_last, show (((quoteL c.data.toList).length - 1 : Nat) : Int) = ((bs (quoteL c.data.toList)).size : Int) - 1 by omega] at hi1
  have HAT := hide (fun i (h : i < (quoteL c.data.toList).length) => quote_at h)
  rw [← hsz] at HT
  have hs2 : 2 ≤ (bs (quoteL c.data.toList)).size := by omega
  have hs6 : (bs (quoteL c.data.toList)).size ≤ 65536 := by omega
  rw [← hsz] at HAT
  clear hsz hq6 hql hcd
  generalize bs (quoteL c.data.toList) = q at *
  go_enter Try.func4, Try.ntmps4
  go_wp2_with fail
  refine (unhide HC w).mono ?_
  rintro e w1 ⟨rfl, hw1⟩
  obtain rfl := hw1.symm
  clear hw1
  go_wp2_with fail
  refine (unhide HQ w).mono ?_
  rintro e w1 ⟨rfl, hb1⟩
  go_wp2_with fail
  refine (unhide HTD w1).mono ?_
  rintro e w2 ⟨rfl, hb2⟩
  have hb12 := hb1.trans (hb2.mono hb1.size)
  have j1 : ¬ (q.size : Int) < 2 := by omega
  have j2 : (((34 : UInt8).toNat : Int) != 34) = false := rfl
  have j3 : (0 : Int) ≤ (q.size : Int) - 1 := by omega
  go_wp2_with fail
  go_loopw [4] (fun iv wq => ∃ i : Nat, i ≤ q.size ∧ iv = .int .i64 (i : Int) ∧ Below w2.heap.size w2 wq) (fun iv _ => q.size - (intOf iv).toNat)
  case atStart => exact ⟨0, by omega, rfl, Below.refl _ _⟩
  case round =>
    rename World => w3
    obtain ⟨i, hin, rfl, hbw⟩ := hrel
    clear hi1 j1 j2 j3 hj0
    have hb13 := hb12.trans (hbw.mono hb12.size)
    by_cases hlt : i < q.size
    · have hI : (i : Int) < (q.size : Int) := by omega
      have hidx := index_str q i hlt
      obtain ⟨h1, h2⟩ := HAT.out i hlt
      have g1 : ¬ ((lk q i).toNat : Int) < 32 := by omega
      have g2 : ¬ (126 : Int) < ((lk q i).toNat : Int) := by omega
      generalize lk q i = b at *
      go_wp2
      go_roundw
      case rel => exact ⟨i + 1, by omega, by go_num, hbw⟩
      case measure => simp [intOf]; omega
    · have hI : ¬ (i : Int) < (q.size : Int) := by omega
      have HTW := hide (unhide HT w3)
      go_wp2_with fail
      refine (unhide HTW).mono ?_
      rintro e w4 ⟨v4, rfl, hO4, hb4⟩
      obtain ⟨a4, c4, hv4⟩ := hO4.shape
      subst hv4
      obtain ⟨b, o, rfl, x0, x1, x2, x3⟩ := hO4.isTk.at (Below.refl _ _) (i := 0) (by simp)
      obtain ⟨b', o', hbo, _, _, _, y3⟩ := hO4.isTk.at (Below.refl _ _) (i := 1) (by simp)
      injection hbo with hbo
      injection hbo with e1 e2 e3
      subst e1 e2
      have hc4 : 2 ≤ c4 := by
        obtain ⟨_, _, hv, h1, _⟩ := hO4.isTk
        injection hv with _ _ e3
        subst e3
        exact h1
      simp only [List.getD_cons_zero, List.getD_cons_succ] at x0 x1 x2 x3 y3
      have hnq := tok_eql ⟨2, c, 1, 0⟩ ⟨2, c, 1, 0⟩
      have hgd := tok_guard .eql
      rw [decide_eq_true rfl] at hnq
      unfold tkC at hnq
      simp only at hnq
      simp only [Nat.zero_mul, Nat.one_mul, Nat.add_zero] at x0 x1 x2 x3 y3
      go_wp2
      go_ret
      exact ⟨rfl, hb13.trans (hb4.mono hb13.size)⟩
end Go.Proofs.Ytcdilcjgmcamcab
