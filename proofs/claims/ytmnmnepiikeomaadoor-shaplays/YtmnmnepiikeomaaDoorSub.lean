/- Parts of a slice of bytes, wherever it lies: what the expression yields, as one equation. -/
import Derived.Test.YtmnmnepiikeomaaDoorApp
namespace Go.Proofs.YtmnmnepiikeomaaDoor
open Go.RowKit

theorem elemSl : Tryd.prog.underlying 26 = some (.slice (Tryd.prog.elem 26)) := by kernel_rfl
theorem sizeSl (W : World) : (sizeOf (Tryd.prog.elem 26)).run Tryd.prog W = .ok 1 W := by kernel_rfl
/-- Where a part of a slice lies. -/
def subA (a : Option Addr) (cap q : Nat) : Option Addr := if cap = q then a else a.map (·.add q)
theorem IsB.sub {w : World} {a : Option Addr} {n cap : Nat} {xs : List Int} (h : IsB w (.slice a n cap) xs) {q t : Nat} (hq : q ≤ t) (ht : t ≤ n) : IsB w (.slice (subA a cap q) (t - q) (cap - q)) ((xs.drop q).take (t - q)) := by
  have hn := h.lenEq
  obtain ⟨hb, a', cp, hv, hl, hm, hz, hc⟩ := h
  injection hv with e1 e2 e3
  subst e1 e3
  have hlen : ((xs.drop q).take (t - q)).length = t - q := by simp; omega
  have hg : ∀ j, j < t - q → ((xs.drop q).take (t - q))[j]? = xs[q + j]? := fun j hj => by rw [List.getElem?_take_of_lt hj, List.getElem?_drop]
  refine ⟨fun j => ?_, subA a cap q, cap - q, by rw [hlen], by omega, by omega, fun h => ?_, fun hp => ?_⟩
  · by_cases hj : j < t - q
    · rw [hg j hj]; exact hb (q + j)
    · rw [List.getElem?_eq_none (by omega)]; simp
  · unfold subA at h
    by_cases e : cap = q
    · omega
    · rw [if_neg e] at h
      have : a = none := by simpa using h
      have := hz this
      omega
  · obtain ⟨b, off, ha, hcell⟩ := hc (by omega)
    refine ⟨b, off + q, ?_, fun j hj => ?_⟩
    · unfold subA
      rw [if_neg (by omega), ha, Option.map_some, Addr.add_lit]
    · rw [hlen] at hj
      rw [Nat.add_assoc, hcell (q + j) (by omega), List.getD_eq_getElem?_getD, List.getD_eq_getElem?_getD, hg j hj]
theorem sub_block {a : Option Addr} {cap q B : Nat} (h : ∀ ad, a = some ad → ad.block < B) : ∀ ad, subA a cap q = some ad → ad.block < B := by
  intro ad had
  unfold subA at had
  by_cases e : cap = q
  · rw [if_pos e] at had; exact h ad had
  · rw [if_neg e] at had
    cases a with
    | none => simp at had
    | some ad0 =>
      simp only [Option.map_some, Option.some.injEq] at had
      have e : (ad0.add q).block = ad0.block := by unfold Addr.add; split <;> rfl
      rw [← had, e]
      exact h ad0 rfl
theorem slice_lh (a : Option Addr) (n cap q t : Nat) (hq : q ≤ t) (ht : t ≤ cap) (W : World) : (Instr.sliceAt 26 (.slice a n cap) (some (.int .i64 (q : Int))) (some (.int .i64 (t : Int))) none).run Tryd.prog W = .ok (.slice (subA a cap q) (t - q) (cap - q)) W := by
  rw [run_sliceAt_slice W _ _ _ _ _ elemSl, run_slice_lh W _ a n cap elemSl .i64 .i64 q t (by omega) (by omega) (by omega), sizeSl]
  simp [Result.andThen, sliced, subA]
theorem slice_h (a : Option Addr) (n cap t : Nat) (ht : t ≤ cap) (W : World) : (Instr.sliceAt 26 (.slice a n cap) none (some (.int .i64 (t : Int))) none).run Tryd.prog W = .ok (.slice (subA a cap 0) t cap) W := by
  rw [run_sliceAt_slice W _ _ _ _ _ elemSl, run_slice_h W _ a n cap elemSl .i64 t (by omega) (by omega), sizeSl]
  simp [Result.andThen, sliced, subA]
theorem slice_l (a : Option Addr) (n cap q : Nat) (hq : q ≤ n) (W : World) : (Instr.sliceAt 26 (.slice a n cap) (some (.int .i64 (q : Int))) none none).run Tryd.prog W = .ok (.slice (subA a cap q) (n - q) (cap - q)) W := by
  rw [run_sliceAt_slice W _ _ _ _ _ elemSl, run_slice_l W _ a n cap elemSl .i64 q (by omega) (by omega), sizeSl]
  simp [Result.andThen, sliced, subA]
end Go.Proofs.YtmnmnepiikeomaaDoor
