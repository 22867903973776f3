/- The document's Turn, refused. -/
import Derived.Test.YtfgjhlnaaopdeabDkZ
namespace Go.Proofs.Ytfgjhlnaaopdeab
open Go.RowKit Go.Maps

set_option maxRecDepth 100000 in
set_option maxHeartbeats 2000000 in
theorem rturn_out {w : World} {a1 a2 : Option Addr} {n1 n2 c1 c2 : Nat} {n x rd wt fl : Int} {y : Int} (hx : x < 0 ∨ n ≤ x) :
    Calls Try.prog 45 #[.agg #[.int .i64 n, .slice a1 n1 c1, .slice a2 n2 c2, .int .i64 rd, .int .i64 wt, .int .i64 fl], .int .i64 x, .int .i64 y] w fun e w' => e = .returned (.tuple #[.agg #[.int .i64 n, .slice a1 n1 c1, .slice a2 n2 c2, .int .i64 rd, .int .i64 wt, .int .i64 fl], .int .i64 31]) ∧ Below w.heap.size w w' := by
  by_cases h0 : x < 0
  · clear hx
    go_enter Try.func45, Try.ntmps45
    go_wp2
    refine bodyPost_ret (v := .tuple #[.agg #[.int .i64 n, .slice a1 n1 c1, .slice a2 n2 c2, .int .i64 rd, .int .i64 wt, .int .i64 fl], .int .i64 31]) ?_ rfl ?_
    · simp [results, Try.results45, go_sem]
    · exact ⟨rfl, ((Below.refl _ _).alloc (Nat.le_refl _) _).alloc (by simp) _⟩
  · have h1 : decide (x < 0) = false := by simpa using h0
    have h2 : decide (n ≤ x) = true := by rcases hx with hx | hx; · exact absurd hx h0
                                          · simpa using hx
    clear hx h0
    go_enter Try.func45, Try.ntmps45
    go_wp2
    refine bodyPost_ret (v := .tuple #[.agg #[.int .i64 n, .slice a1 n1 c1, .slice a2 n2 c2, .int .i64 rd, .int .i64 wt, .int .i64 fl], .int .i64 31]) ?_ rfl ?_
    · simp [results, Try.results45, go_sem]
    · exact ⟨rfl, ((Below.refl _ _).alloc (Nat.le_refl _) _).alloc (by simp) _⟩
set_option maxRecDepth 100000 in
set_option maxHeartbeats 2000000 in
theorem rturn_arg {w : World} {a1 a2 : Option Addr} {n1 n2 c1 c2 i : Nat} {n y rd wt fl : Int} (hi : (i : Int) < n) (hy : y < 0 ∨ 4096 ≤ y) :
    Calls Try.prog 45 #[.agg #[.int .i64 n, .slice a1 n1 c1, .slice a2 n2 c2, .int .i64 rd, .int .i64 wt, .int .i64 fl], .int .i64 (i : Int), .int .i64 y] w fun e w' => e = .returned (.tuple #[.agg #[.int .i64 n, .slice a1 n1 c1, .slice a2 n2 c2, .int .i64 rd, .int .i64 wt, .int .i64 fl], .int .i64 1]) ∧ Below w.heap.size w w' := by
  have h1 : decide ((i : Int) < 0) = false := by simp
  have h2 : decide (n ≤ (i : Int)) = false := by simpa using hi
  clear hi
  by_cases h0 : y < 0
  · clear hy
    go_enter Try.func45, Try.ntmps45
    go_wp2
    refine bodyPost_ret (v := .tuple #[.agg #[.int .i64 n, .slice a1 n1 c1, .slice a2 n2 c2, .int .i64 rd, .int .i64 wt, .int .i64 fl], .int .i64 1]) ?_ rfl ?_
    · simp [results, Try.results45, go_sem]
    · exact ⟨rfl, ((Below.refl _ _).alloc (Nat.le_refl _) _).alloc (by simp) _⟩
  · have h3 : decide (y < 0) = false := by simpa using h0
    have h4 : decide (4096 ≤ y) = true := by rcases hy with hy | hy; · exact absurd hy h0
                                             · simpa using hy
    clear hy h0
    go_enter Try.func45, Try.ntmps45
    go_wp2
    refine bodyPost_ret (v := .tuple #[.agg #[.int .i64 n, .slice a1 n1 c1, .slice a2 n2 c2, .int .i64 rd, .int .i64 wt, .int .i64 fl], .int .i64 1]) ?_ rfl ?_
    · simp [results, Try.results45, go_sem]
    · exact ⟨rfl, ((Below.refl _ _).alloc (Nat.le_refl _) _).alloc (by simp) _⟩
end Go.Proofs.Ytfgjhlnaaopdeab
