/- Tokens. -/
import Derived.Test.YtcdilcjgmcamcabTkM
import Derived.Test.YtcdilcjgmcamcabTkOa
namespace Go.Proofs.Ytcdilcjgmcamcab
open Go.RowKit Go.Maps

set_option maxRecDepth 100000 in
set_option maxHeartbeats 4000000 in
theorem tokens_calls (s : ByteArray) (w : World) : Calls Try.prog 10 #[.string s] w fun e w' => ∃ v, e = .returned (.tuple #[v, .int .i64 (tokL s.data.toList).2.1, .int .i64 (tokL s.data.toList).2.2.1, .int .i64 (tokL s.data.toList).2.2.2]) ∧ OwnT w' w.heap.size v (tokL s.data.toList).1 ∧ Below w.heap.size w w' := by
  by_cases hs : 65536 < s.size
  · have HT : Hid (tokL s.data.toList = ([], 2, 0, 0)) := by show _ = _; unfold tokL; rw [if_pos (by rw [len_data]; exact hs)]
    go_enter Try.func10, Try.ntmps10
    go_wp2
    (try simp only [Exit.inBlock, Exit.then])
    refine bodyPost_ret (results4 (p := 2) (q := 3) (r := 4) (t := 5) rfl) rfl ?_
    rw [HT.out]
    exact ⟨.slice none 0 0, rfl, OwnT.nil _ _, Below.refl _ _⟩
  · have HT : Hid (tokL s.data.toList = res (fin (run st0 s.data.toList))) := by show _ = _; unfold tokL; rw [if_neg (by rw [len_data]; exact hs)]
    generalize tokL s.data.toList = T at *
    go_enter Try.func10, Try.ntmps10
    have hA := Arr.new w (rdC s 0 0 0 1 (.slice none 0 0) 0) 63
    have hbn := (Below.refl w.heap.size w).alloc (Nat.le_refl _) (.cells (rdC s 0 0 0 1 (.slice none 0 0) 0).toArray 63)
    have hR : Rd w (w.alloc (.cells (rdC s 0 0 0 1 (.slice none 0 0) 0).toArray 63)) w.heap.size s 0 0 0 1 [] 0 (.slice none 0 0) := ⟨hA, OwnT.nil _ _, Nat.le_refl _, hbn⟩
    have HALL := hide (all_calls hR (by omega))
    clear hA hbn hR
    generalize hF : fin (run st0 s.data.toList) = F at *
    clear hF
    go_wp2_with fail
    refine (unhide HALL).mono ?_
    rintro e w2 ⟨b, st, bh, ln, out, er, v2, rfl, hR2, hsb, hbs, hcase⟩
    have HR2 := hide hR2
    have c1 := hR2.cells.2.1
    have c2 := hR2.cells.2.2.1
    have c4 := hR2.cells.2.2.2.2.1
    have c5 := hR2.cells.2.2.2.2.2.1
    have c6 := hR2.cells.2.2.2.2.2.2
    obtain ⟨va, vc, hv2⟩ := hR2.own.shape
    subst hv2
    clear hR2 HALL
    rcases hcase with ⟨her, hmd, hout⟩ | ⟨her, hmd, hn, hp⟩
    · have HT2 : Hid (T = (out, 0, 0, 0)) := by show _ = _; rw [HT.out]; unfold res; rw [hmd, hout]
      subst her
      clear hmd hout HT
      go_wp2
      (try simp only [Exit.inBlock, Exit.then])
      refine bodyPost_ret (results4 (p := 2) (q := 3) (r := 4) (t := 5) rfl) rfl ?_
      rw [HT2.out]
      exact ⟨_, rfl, HR2.out.own, HR2.out.below⟩
    · have HT2 : Hid (T = ([], er, (ln : Int), ((b - st : Nat) : Int))) := by show _ = _; rw [HT.out]; unfold res; rw [hmd, hn, hp]
      have ber : (er == 0) = false := by simpa using her
      have hwr : IntKind.i64.wrap ((b : Int) - (st : Int)) = (b : Int) - (st : Int) := by rw [IntKind.wrap_i64]; omega
      clear hmd hn hp HT her
      go_wp2_with fail
      go_quiet (fail)
      go_wp2
      (try simp only [Exit.inBlock, Exit.then])
      refine bodyPost_ret (results4 (p := 2) (q := 3) (r := 4) (t := 5) rfl) rfl ?_
      rw [HT2.out]
      refine ⟨.slice none 0 0, ?_, OwnT.nil _ _, HR2.out.below.trans (drewn_b _ _ _)⟩
      rw [show ((b - st : Nat) : Int) = (b : Int) - (st : Int) by omega]
      rfl
end Go.Proofs.Ytcdilcjgmcamcab
