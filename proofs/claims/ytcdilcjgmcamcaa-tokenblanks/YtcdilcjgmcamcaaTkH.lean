/- sign, end. -/
import Derived.Test.YtcdilcjgmcamcaaTkG
namespace Go.Proofs.Ytcdilcjgmcamcaa
open Go.RowKit Go.Maps

section
variable {w0 w w' : World} {g : Nat} {s : ByteArray} {a st bh ln : Nat} {out : List Tok} {wr : Int} {v : Value}
set_option maxRecDepth 100000 in
set_option maxHeartbeats 4000000 in
theorem sign_calls (h : Rd w0 w g s a st bh ln out wr v) (k : Int) (hst : st ≤ a) (ha : a ≤ 1000000) (ho : out.length ≤ 1000000) : Calls Try.prog 49 #[.pointer (some ⟨g, 0, none⟩), .int .i64 k] w fun e w' => e = .returned (.tuple #[]) ∧ ∃ v', Rd w0 w' g s (a + 1) st (a + 1) ln (out ++ [⟨k, noText, ln, ((a - st : Nat) : Int)⟩]) wr v' := by
  have c1 := h.cells.2.1
  have f1 := h.frozen 1
  have h1 := h.setAt (a + 1)
  have d1 := h1.cells.2.1
  have HADD := hide (add_calls h1 k noText a hst (by omega) ho)
  rw [show ((a + 1 : Nat) : Int) = (a : Int) + 1 from rfl] at d1 HADD
  have e1 : (a : Int) + 1 - 1 = (a : Int) := by omega
  clear h h1
  go_enter Try.func49, Try.ntmps49
  go_wp2_with fail
  refine (unhide HADD).mono ?_
  rintro e w2 ⟨rfl, v2, hr2⟩
  have HR2 := hide hr2
  clear hr2
  go_wp2
  go_end0
  exact ⟨rfl, v2, HR2.out⟩
set_option maxRecDepth 100000 in
set_option maxHeartbeats 4000000 in
theorem end_calls (h : Rd w0 w g s a st bh ln out wr v) (hst : st ≤ bh) (ha : a ≤ 1000000) (hb : bh ≤ 1000000) (hln : ln ≤ 10000000) (ho : out.length ≤ 1000000) : Calls Try.prog 48 #[.pointer (some ⟨g, 0, none⟩)] w fun e w' => e = .returned (.tuple #[]) ∧ ∃ v', Rd w0 w' g s (min (a + 1) s.size) (min (a + 1) s.size) (min (a + 1) s.size) (ln + 1) (out ++ [⟨7, noText, ln, ((bh - st : Nat) : Int)⟩]) wr v' := by
  have c3 := h.cells.2.2.2.1
  have HADD := hide (add_calls h 7 noText bh hst hb ho)
  clear h
  generalize hm : min (a + 1) s.size = m at *
  have HM := hide hm
  have hmr : ∀ (W : World) (ts : Array TypeId) (ty : TypeId), (Builtin.min_ ts ty #[.int .i64 ((a : Int) + 1), .int .i64 (s.size : Int)]).run Try.prog W = .ok (.int .i64 (m : Int)) W := by
    intro W ts ty
    have e : (Builtin.min_ ts ty #[.int .i64 ((a : Int) + 1), .int .i64 (s.size : Int)]).run Try.prog W = .ok (.int .i64 (if (s.size : Int) < (a : Int) + 1 then (s.size : Int) else (a : Int) + 1)) W := by simp [Builtin.min_, Builtin.min2]
    rw [e, ← hm]
    congr 2
    by_cases h1 : (s.size : Int) < (a : Int) + 1
    · rw [if_pos h1]; omega
    · rw [if_neg h1]; omega
  clear hm
  go_enter Try.func48, Try.ntmps48
  go_wp2_with fail
  refine (unhide HADD).mono ?_
  rintro e w2 ⟨rfl, v2, hr2⟩
  have HR2 := hide hr2
  obtain ⟨c0, c1, _⟩ := hr2.cells
  have f1 := hr2.frozen 1
  clear hr2 c3 HADD
  go_wp2_with fail
  go_region
  have h3 := (HR2.out.setAt m).keep (w' := (w2.setCell ⟨g, 1, none⟩ (.int .i64 (m : Int))).drew) ((Below.refl _ _).drew)
  generalize (w2.setCell ⟨g, 1, none⟩ (.int .i64 (m : Int))).drew = w3 at *
  have c1 := h3.cells.2.1
  have c2 := h3.cells.2.2.1
  have c3 := h3.cells.2.2.2.1
  have f2 := h3.frozen 2
  have f3 := h3.frozen 3
  have a3 := (h3.setStart m).cells.2.2.2.1
  have a1 := (h3.setStart m).cells.2.1
  have b2 := (h3.setBehind m).cells.2.2.1
  have b1 := (h3.setBehind m).cells.2.1
  have g3 := (h3.setStart m).frozen 3
  have g2 := (h3.setBehind m).frozen 2
  have HR3 := hide h3
  clear h3 HR2
  go_wp2_with fail
  go_region
  have h4 := HR3.out.setStart m
  have h5 := h4.setBehind m
  have h6 := h5.keep (w' := ((w3.setCell ⟨g, 2, none⟩ (.int .i64 (m : Int))).setCell ⟨g, 3, none⟩ (.int .i64 (m : Int))).drew) ((Below.refl _ _).drew)
  generalize ((w3.setCell ⟨g, 2, none⟩ (.int .i64 (m : Int))).setCell ⟨g, 3, none⟩ (.int .i64 (m : Int))).drew = w4 at *
  have c4 := h6.cells.2.2.2.2.1
  have f4 := h6.frozen 4
  have HR7 := hide (h6.setLine (ln + 1))
  clear h4 h5 h6 HR3 c1 c2 c3 f2 f3 a1 a3 b1 b2 g2 g3
  go_wp2
  go_end0
  exact ⟨rfl, v2, HR7.out⟩
end
end Go.Proofs.Ytcdilcjgmcamcaa
