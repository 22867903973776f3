/- The document's New and Now. -/
import Derived.Test.YtfgjhlnaaopdeabDkA
namespace Go.Proofs.Ytfgjhlnaaopdeab
open Go.RowKit Go.Maps

set_option maxRecDepth 100000 in
set_option maxHeartbeats 2000000 in
theorem now_calls {w : World} {va vb : Value} {n x rd wt fl : Int} {l la : Ats} {N : Nat} (h : IsAts w vb l) (ha : IsAts w va la) (hok : AtsOk N l) (hoa : AtsOk N la) :
    Calls Try.prog 50 #[.agg #[.int .i64 n, va, vb, .int .i64 rd, .int .i64 wt, .int .i64 fl], .int .i64 x] w fun e w' => ∃ u, e = .returned u ∧ Own8 w' 0 u ((ofN l x).getLast?.getD (lastOf la x)) ∧ Below w.heap.size w w' := by
  obtain ⟨a, c, rfl, hp⟩ := h.shape
  have hb1 := (Below.refl w.heap.size w).alloc (Nat.le_refl _) (.cells #[.int .i64 n, va, .slice a l.length c, .int .i64 rd, .int .i64 wt, .int .i64 fl] 85)
  have HA := hide (h.below hb1)
  have HAA := hide (ha.below hb1)
  have HC : Hid (∀ (W : World) (v : Value) (xs : List Int), IsB W v xs → xs.length ≤ 140737488355328 → Calls Try.prog 51 #[v] W fun e w' => ∃ u, e = .returned u ∧ Own8 w' W.heap.size u xs ∧ Below W.heap.size W w') := fun W v xs h1 h2 => copy_calls h1 h2
  have HS : Hid (∀ j, j < l.length → IsSec (l.getD j dA).2) := fun j hj => by rw [getD_eq hj]; exact (hok _ (List.getElem_mem hj)).2.2
  have HSA := hide (lastOf_is hoa x)
  have hlen : l.length ≤ 9223372036854775807 := by
    by_cases h0 : 0 < l.length
    · obtain ⟨g, _, h1, h2⟩ := hp h0; omega
    · omega
  clear h ha hok hoa
  generalize hm : l.length = m at *
  have HM := hide hm
  clear hm
  go_enter Try.func50, Try.ntmps50
  go_wp2
  go_loop [5] (fun iv => ∃ k : Nat, k ≤ m ∧ iv = .int .i64 ((k : Int) - 1) ∧ ∀ q, k ≤ q → q < m → (l.getD q dA).1 ≠ x) (fun iv => (intOf iv + 1).toNat)
  case atStart => exact ⟨m, Nat.le_refl _, by go_num, fun q h1 h2 => by omega⟩
  case round =>
    obtain ⟨k, hk, rfl, hno⟩ := hrel
    by_cases h0 : k = 0
    · have HN : Hid (ofN l x = []) := ofN_none (fun q hq => hno q (by omega) (by rw [HM.out] at hq; exact hq))
      subst h0
      clear hno
      have HLC := hide (lasts_calls (n := n) (x := x) (rd := rd) (wt := wt) (fl := fl) (vb := .slice a m c) HAA.out)
      go_wp2_with (first
        | (go_at_call 55; refine (unhide HLC).mono ?_; rintro e w2 ⟨u, rfl, hu, hb2⟩; have hI2 := hu.isB; have hl2 : (lastOf la x).length ≤ 140737488355328 := (by rw [HSA.out.1]; decide))
        | (go_at_call 51; refine (unhide HC _ _ _ hI2 hl2).mono ?_; rintro e w3 ⟨u3, rfl, hu3, hb3⟩))
      go_ret
      refine ⟨u3, rfl, ?_, below_then (below_then hb1 hb2) hb3⟩
      rw [HN.out]
      exact hu3.mono (Nat.zero_le _)
    · obtain ⟨j, rfl⟩ : ∃ j, k = j + 1 := ⟨k - 1, by omega⟩
      obtain ⟨g, rfl, hle, hcm⟩ := hp (by omega)
      obtain ⟨u, hc1, hc2, hu⟩ := HA.out.elem (j := j) (by rw [HM.out]; omega)
      have hj1 : ((j + 1 : Nat) : Int) - 1 = (j : Int) := by omega
      rw [hj1]
      generalize hy : (l.getD j dA).1 = y at *
      by_cases he : y = x
      · have HL : Hid ((ofN l x).getLast?.getD (lastOf la x) = (l.getD j dA).2) := by
          rw [ofN_last (j := j) (by rw [HM.out]; omega) (by rw [hy]; exact he) (fun q h1 h2 => hno q (by omega) (by rw [HM.out] at h2; exact h2))]
          rfl
        have HCU := hide (unhide HC _ _ _ hu.isB (by rw [(unhide HS j (by omega)).1]; decide))
        clear hu hno hy
        subst he
        go_wp2_with (go_at_call 51; refine (unhide HCU).mono ?_; rintro e w3 ⟨u3, rfl, hu3, hb3⟩)
        go_ret
        exact ⟨u3, rfl, by rw [HL.out]; exact hu3.mono (Nat.zero_le _), below_then hb1 hb3⟩
      · have HNO : Hid (∀ q, j ≤ q → q < m → (l.getD q dA).1 ≠ x) := fun q h1 h2 => by
          by_cases e : q = j
          · rw [e, hy]; exact he
          · exact hno q (by omega) h2
        clear hno hy hu
        go_wp2
        go_round
        case rel => exact ⟨j, by omega, by go_num, HNO.out⟩
        case measure => simp [intOf]
set_option maxRecDepth 100000 in
set_option maxHeartbeats 1000000 in
theorem rnew_calls {w : World} {n : Int} :
    Calls Try.prog 39 #[.int .i64 n] w fun e w' => Below w.heap.size w w' ∧ e = .returned (.tuple #[.agg #[.int .i64 (if n < 2 ∨ 65536 < n then 0 else n), .slice none 0 0, .slice none 0 0, .int .i64 0, .int .i64 0, .int .i64 0], .int .i64 (if n < 2 ∨ 65536 < n then 30 else 0)]) := by
  by_cases h1 : n < 2
  · rw [if_pos (Or.inl h1), if_pos (Or.inl h1)]
    go_enter Try.func39, Try.ntmps39
    go_wp2
    exact bodyPost_ret (v := .tuple #[.agg #[.int .i64 0, .slice none 0 0, .slice none 0 0, .int .i64 0, .int .i64 0, .int .i64 0], .int .i64 30]) (by simp [results, Try.results39, go_sem]) rfl ⟨(Below.refl _ _).alloc (Nat.le_refl _) _, rfl⟩
  · by_cases h2 : 65536 < n
    · rw [if_pos (Or.inr h2), if_pos (Or.inr h2)]
      have h1' : decide (n < 2) = false := by simpa using h1
      clear h1
      go_enter Try.func39, Try.ntmps39
      go_wp2
      exact bodyPost_ret (v := .tuple #[.agg #[.int .i64 0, .slice none 0 0, .slice none 0 0, .int .i64 0, .int .i64 0, .int .i64 0], .int .i64 30]) (by simp [results, Try.results39, go_sem]) rfl ⟨(Below.refl _ _).alloc (Nat.le_refl _) _, rfl⟩
    · have hno : ¬ (n < 2 ∨ 65536 < n) := by omega
      rw [if_neg hno, if_neg hno]
      have h1' : decide (n < 2) = false := by simpa using h1
      have h2' : decide (65536 < n) = false := by simpa using h2
      clear h1 h2 hno
      go_enter Try.func39, Try.ntmps39
      go_wp2
      exact bodyPost_ret (v := .tuple #[.agg #[.int .i64 n, .slice none 0 0, .slice none 0 0, .int .i64 0, .int .i64 0, .int .i64 0], .int .i64 0]) (by simp [results, Try.results39, go_sem]) rfl ⟨(Below.refl _ _).alloc (Nat.le_refl _) _, rfl⟩
end Go.Proofs.Ytfgjhlnaaopdeab
