/- An argument that is a slice of steps, opened. -/
import Derived.Test.YtmnmnepiikeomaaDoorLawI
import Derived.Test.YtmnmnepiikeomaaDoorLawBB
import Derived.Test.YtmnmnepiikeomaaDoorShaPlays
import Derived.Deep.Slices
namespace Go.Proofs.YtmnmnepiikeomaaDoor
open Go.ChangeShapes Go.WideShapes Go.ChangeAt Go.RowKit Go.Deep

theorem cellsSt : Tryd.prog.cellsOf 40 = 4 := by kernel_rfl
section
variable {H : Type} {enc : TypeId × Value → H}
theorem open_step {W : World} {fuel : Nat} {cs : List Value} {x : DataW H × List MemPlace} (hf : DataW.trod enc Tryd.prog W 0 (fun _ => true) true fuel 40 cs = some x) :
    ∃ s : StepF, cs = [.int .i64 s.K, .int .i64 s.O, .int .i64 s.T, s.vb] ∧ IsB W s.vb s.xs := by
  obtain ⟨xs, n, rfl, rfl, hl, hxl, hfs⟩ := DataW.trod_struct Tryd.underlying40 hf
  rw [cellsSt] at hl
  match cs, hl with
  | [c0, c1, c2, c3], _ =>
    match xs, hxl with
    | [x0, x1, x2, x3], _ =>
      have g0 : DataW.trod enc Tryd.prog W 0 (fun _ => true) true n 3 (List.take (Tryd.prog.cellsOf 3) [c0, c1, c2, c3]) = some x0 := hfs 0 _ rfl
      rw [cellsI] at g0
      have h0 : DataW.trod enc Tryd.prog W 0 (fun _ => true) true n 3 [c0] = some x0 := g0
      have g1 : DataW.trod enc Tryd.prog W 0 (fun _ => true) true n 3 (List.take (Tryd.prog.cellsOf 3) [c1, c2, c3]) = some x1 := hfs 1 _ rfl
      rw [cellsI] at g1
      have h1 : DataW.trod enc Tryd.prog W 0 (fun _ => true) true n 3 [c1] = some x1 := g1
      have g2 : DataW.trod enc Tryd.prog W 0 (fun _ => true) true n 3 (List.take (Tryd.prog.cellsOf 3) [c2, c3]) = some x2 := hfs 2 _ rfl
      rw [cellsI] at g2
      have h2 : DataW.trod enc Tryd.prog W 0 (fun _ => true) true n 3 [c2] = some x2 := g2
      have g3 : DataW.trod enc Tryd.prog W 0 (fun _ => true) true n 26 (List.take (Tryd.prog.cellsOf 26) [c3]) = some x3 := hfs 3 _ rfl
      rw [cellsSl] at g3
      have h3 : DataW.trod enc Tryd.prog W 0 (fun _ => true) true n 26 [c3] = some x3 := g3
      obtain ⟨K, e0, _, _⟩ := DataW.trod_int Tryd.underlying3 h0
      obtain ⟨O, e1, _, _⟩ := DataW.trod_int Tryd.underlying3 h1
      obtain ⟨T, e2, _, _⟩ := DataW.trod_int Tryd.underlying3 h2
      simp only [List.cons.injEq, and_true] at e0 e1 e2
      subst e0 e1 e2
      obtain ⟨ys, hB, _⟩ := open_bytes1 h3
      exact ⟨⟨K, O, T, c3, ys⟩, rfl, hB⟩
/-- An argument that is a slice of steps. -/
theorem open_steps {W : World} {base : Nat} {v : Value} {d : DataW H} {p : List MemPlace} (hv : Value.okWide Tryd.prog W .any base 34 v) (h : DataW.Trod enc Tryd.prog W 0 (fun _ => true) true 34 v d p) :
    ∃ ss, IsSteps W v ss := by
  obtain ⟨a, len, cap, rfl⟩ := okWide_slice Tryd.underlying34 hv
  obtain ⟨fuel, hf⟩ := h
  rcases open_slice Tryd.underlying34 hf with ⟨hcs, hx⟩ | ⟨ad, len', cap', m, n, D, Pl, hcs, _, hl, hm, hmm, hx, hcell⟩
  · simp [Value.cells] at hcs
    obtain ⟨rfl, rfl, rfl⟩ := hcs
    exact ⟨[], ⟨none, 0, rfl, by simp, by omega, fun h => by simp at h⟩, fun j hj => by simp at hj⟩
  · simp [Value.cells] at hcs
    obtain ⟨rfl, rfl, rfl⟩ := hcs
    simp only [if_true] at hmm
    obtain rfl := hmm.symm
    rw [cellsSt] at hcell
    haveI : Inhabited StepF := ⟨StepF.nul⟩
    obtain ⟨O, hO⟩ := choose_lt (α := StepF) (n := len) (p := fun i s => (W.cell? ((ad.add (i * 4)).add 0) = some (.int .i64 s.K) ∧ W.cell? ((ad.add (i * 4)).add 1) = some (.int .i64 s.O) ∧ W.cell? ((ad.add (i * 4)).add 2) = some (.int .i64 s.T) ∧ W.cell? ((ad.add (i * 4)).add 3) = some s.vb) ∧ IsB W s.vb s.xs) (fun i hi => by
      obtain ⟨cs', h1, h2⟩ := hcell i (by omega)
      obtain ⟨s, rfl, hs⟩ := open_step h2
      obtain ⟨_, _, hc⟩ := World.cells?_some h1
      exact ⟨s, ⟨hc 0 (by omega), hc 1 (by omega), hc 2 (by omega), hc 3 (by omega)⟩, hs⟩)
    have hlen : ((List.range len).map O).length = len := by simp
    have hget : ∀ j, j < len → ((List.range len).map O).getD j .nul = O j := fun j hj => by simp [List.getD_eq_getElem?_getD, hj]
    refine ⟨(List.range len).map O, ⟨some ad, cap, by rw [hlen], by omega, by simpa [maxLen] using hm, fun hp => ?_⟩, fun j hj => ?_⟩
    · rw [hlen] at hp ⊢
      obtain ⟨b, off, spot⟩ := ad
      have h00 := (hO 0 hp).1.1
      have hspot : spot = none := by simpa [Addr.add] using World.cell?_spot h00
      subst hspot
      refine ⟨b, off, rfl, fun j hj => ?_⟩
      rw [hget j hj]
      have h1 := (hO j hj).1
      rw [Go.WideShapes.add_plain, Go.WideShapes.add_plain, Go.WideShapes.add_plain, Go.WideShapes.add_plain, Go.WideShapes.add_plain] at h1
      exact h1
    · rw [hlen] at hj
      rw [hget j hj]
      exact (hO j hj).2
end
end Go.Proofs.YtmnmnepiikeomaaDoor
