/- From a walk to a row, for package root: a slot opened. -/
import Derived.Test.YtpeopejnkbmcdaaDoorLawJ
import Derived.Test.YtpeopejnkbmcdaaDoorKI
namespace Go.Proofs.YtpeopejnkbmcdaaDoor
open Go.ChangeShapes Go.WideShapes Go.ChangeAt Go.RowKit Go.Deep

theorem scellsSlot : Tryd.prog.cellsOf 32 = 105 := by kernel_rfl
section
variable {H : Type} {enc : TypeId × Value → H}
set_option maxRecDepth 100000 in
theorem open_slotC {W : World} {fuel : Nat} {cs : List Value} {x : DataW H × List MemPlace} (hf : DataW.trod enc Tryd.prog W 0 (fun _ => true) true fuel 32 cs = some x) :
    ∃ s : SL, cs = slV s ∧ s.Ok := by
  obtain ⟨xs, n, rfl, rfl, hl, hxl, hfs⟩ := DataW.trod_struct Tryd.underlying32 hf
  rw [scellsSlot] at hl
  match xs, hxl with
  | [x0, x1, x2, x3, x4, x5, x6, x7], _ =>
    have g0 : DataW.trod enc Tryd.prog W 0 (fun _ => true) true n 3 ((cs.drop 0).take (Tryd.prog.cellsOf 3)) = some x0 := hfs 0 _ rfl
    have g1 : DataW.trod enc Tryd.prog W 0 (fun _ => true) true n 3 ((cs.drop 1).take (Tryd.prog.cellsOf 3)) = some x1 := hfs 1 _ rfl
    have g2 : DataW.trod enc Tryd.prog W 0 (fun _ => true) true n 3 ((cs.drop 2).take (Tryd.prog.cellsOf 3)) = some x2 := hfs 2 _ rfl
    have g3 : DataW.trod enc Tryd.prog W 0 (fun _ => true) true n 3 ((cs.drop 3).take (Tryd.prog.cellsOf 3)) = some x3 := hfs 3 _ rfl
    have g4 : DataW.trod enc Tryd.prog W 0 (fun _ => true) true n 3 ((cs.drop 4).take (Tryd.prog.cellsOf 3)) = some x4 := hfs 4 _ rfl
    have g5 : DataW.trod enc Tryd.prog W 0 (fun _ => true) true n 28 ((cs.drop 5).take (Tryd.prog.cellsOf 28)) = some x5 := hfs 5 _ rfl
    have g6 : DataW.trod enc Tryd.prog W 0 (fun _ => true) true n 30 ((cs.drop 37).take (Tryd.prog.cellsOf 30)) = some x6 := hfs 6 _ rfl
    have g7 : DataW.trod enc Tryd.prog W 0 (fun _ => true) true n 30 ((cs.drop 71).take (Tryd.prog.cellsOf 30)) = some x7 := hfs 7 _ rfl
    rw [jcellsI, List.drop_zero] at g0
    rw [jcellsI] at g1 g2 g3 g4
    rw [jcellsKey] at g5
    rw [jcellsRef] at g6 g7
    obtain ⟨k0, e0, _, w0⟩ := DataW.trod_int Tryd.underlying3 g0
    obtain ⟨k1, e1, _, w1⟩ := DataW.trod_int Tryd.underlying3 g1
    obtain ⟨k2, e2, _, w2⟩ := DataW.trod_int Tryd.underlying3 g2
    obtain ⟨k3, e3, _, w3⟩ := DataW.trod_int Tryd.underlying3 g3
    obtain ⟨k4, e4, _, w4⟩ := DataW.trod_int Tryd.underlying3 g4
    obtain ⟨ky, e5, l5, b5⟩ := open_keyJ (by rw [List.length_take, List.length_drop]; omega) g5
    obtain ⟨r, e6, o6⟩ := open_refJ g6
    obtain ⟨m, e7, o7⟩ := open_refJ g7
    refine ⟨⟨k0, k1, k2, k3, k4, ky, r, m⟩, ?_, ⟨bounds_i64 w0, bounds_i64 w1, bounds_i64 w2, bounds_i64 w3, bounds_i64 w4, l5, b5, o6, o7⟩⟩
    have hd : ∀ a b c, c = a + b → (cs.drop a).take b ++ cs.drop c = cs.drop a := fun a b c h => by rw [h, ← List.drop_drop, List.take_append_drop]
    have q0 := hd 0 1 1 rfl
    have q1 := hd 1 1 2 rfl
    have q2 := hd 2 1 3 rfl
    have q3 := hd 3 1 4 rfl
    have q4 := hd 4 1 5 rfl
    have q5 := hd 5 32 37 rfl
    have q6 := hd 37 34 71 rfl
    have q7 : (cs.drop 71).take 34 = cs.drop 71 := List.take_of_length_le (by rw [List.length_drop]; omega)
    rw [List.drop_zero] at q0
    rw [e0] at q0
    rw [e1] at q1
    rw [e2] at q2
    rw [e3] at q3
    rw [e4] at q4
    rw [e5] at q5
    rw [e6] at q6
    rw [e7] at q7
    rw [← q0, ← q1, ← q2, ← q3, ← q4, ← q5, ← q6, ← q7]
    rfl
set_option maxRecDepth 100000 in
/-- An argument that is a slot. -/
theorem open_slot {W : World} {base : Nat} {v : Value} {d : DataW H} {p : List MemPlace} (hv : Value.okWide Tryd.prog W .any base 32 v) (h : DataW.Trod enc Tryd.prog W 0 (fun _ => true) true 32 v d p) :
    ∃ s : SL, v = .agg (slV s).toArray ∧ s.Ok := by
  unfold Value.okWide at hv
  rw [Tryd.underlying32] at hv
  obtain ⟨cs, rfl, _, _⟩ := hv
  obtain ⟨fuel, hf⟩ := h
  obtain ⟨s, e, h1⟩ := open_slotC hf
  refine ⟨s, ?_, h1⟩
  rw [← e]
  simp [Value.cells]
end
end Go.Proofs.YtpeopejnkbmcdaaDoor
