/- From a walk to a row, for package journal: a record opened. -/
import Derived.Test.YtpeopejnkbmcdaaDoorLaw
import Derived.Test.YtpeopejnkbmcdaaDoorKB
import Derived.Deep.Slices
import Derived.Deep.Strs
namespace Go.Proofs.YtpeopejnkbmcdaaDoor
open Go.ChangeShapes Go.WideShapes Go.ChangeAt Go.RowKit Go.Deep

theorem jcellsKey : Tryd.prog.cellsOf 28 = 32 := by kernel_rfl
theorem jcellsRef : Tryd.prog.cellsOf 30 = 34 := by kernel_rfl
theorem jcellsI : Tryd.prog.cellsOf 3 = 1 := by kernel_rfl
theorem jbytes_of : ∀ (cs : List Value), (∀ i, i < cs.length → ∃ k : Int, cs[i]? = some (.int .u8 k) ∧ 0 ≤ k ∧ k ≤ 255) → ∃ hs : List Int, cs = hs.map (Value.int .u8) ∧ ∀ x ∈ hs, 0 ≤ x ∧ x ≤ 255
  | [], _ => ⟨[], rfl, by simp⟩
  | c :: cs, h => by
    obtain ⟨k, e, b⟩ := h 0 (by simp)
    obtain ⟨hs, e2, b2⟩ := jbytes_of cs (fun i hi => by simpa using h (i + 1) (by simp; omega))
    simp at e
    refine ⟨k :: hs, by rw [List.map_cons, e, e2], fun x hx => ?_⟩
    rcases List.mem_cons.1 hx with rfl | hx
    · exact b
    · exact b2 x hx
section
variable {H : Type} {enc : TypeId × Value → H}
theorem open_keyJ {W : World} {fuel : Nat} {cs : List Value} {x : DataW H × List MemPlace} (hl : cs.length = 32) (hf : DataW.trod enc Tryd.prog W 0 (fun _ => true) true fuel 28 cs = some x) :
    ∃ hs : List Int, cs = hs.map (Value.int .u8) ∧ hs.length = 32 ∧ ∀ x ∈ hs, 0 ≤ x ∧ x ≤ 255 := by
  obtain ⟨ys, m, rfl, _, hl0, hyl, hys⟩ := DataW.trod_array Tryd.underlying28 hf
  rw [cells8] at hys
  obtain ⟨hs, e0, b0⟩ := jbytes_of cs (fun i hi => by
    obtain ⟨y, hy⟩ : ∃ y, ys[i]? = some y := ⟨_, List.getElem?_eq_getElem (by omega)⟩
    have h9 := hys i (by omega)
    rw [hy] at h9
    obtain ⟨k, e3, _, w3⟩ := DataW.trod_int Tryd.underlying5 h9
    refine ⟨k, ?_, bounds_u8 w3⟩
    have h10 : ((cs.drop (i * 1)).take 1)[0]? = some (.int .u8 k) := by rw [e3]; rfl
    rw [List.getElem?_take_of_lt (by omega), List.getElem?_drop] at h10
    simpa using h10)
  refine ⟨hs, e0, ?_, b0⟩
  have h12 := congrArg List.length e0
  rw [List.length_map] at h12
  omega
set_option maxRecDepth 100000 in
theorem open_refJ {W : World} {fuel : Nat} {cs : List Value} {x : DataW H × List MemPlace} (hf : DataW.trod enc Tryd.prog W 0 (fun _ => true) true fuel 30 cs = some x) :
    ∃ e : JF, cs = jfV e ∧ e.Ok := by
  obtain ⟨xs, n, rfl, rfl, hl, hxl, hfs⟩ := DataW.trod_struct Tryd.underlying30 hf
  rw [jcellsRef] at hl
  match xs, hxl with
  | [x0, x1, x2], _ =>
    have g0 : DataW.trod enc Tryd.prog W 0 (fun _ => true) true n 28 ((cs.drop 0).take (Tryd.prog.cellsOf 28)) = some x0 := hfs 0 _ rfl
    have g1 : DataW.trod enc Tryd.prog W 0 (fun _ => true) true n 3 ((cs.drop 32).take (Tryd.prog.cellsOf 3)) = some x1 := hfs 1 _ rfl
    have g2 : DataW.trod enc Tryd.prog W 0 (fun _ => true) true n 3 ((cs.drop 33).take (Tryd.prog.cellsOf 3)) = some x2 := hfs 2 _ rfl
    rw [jcellsKey, List.drop_zero] at g0
    rw [jcellsI] at g1 g2
    obtain ⟨fi, e1, _, w1⟩ := DataW.trod_int Tryd.underlying3 g1
    obtain ⟨le, e2, _, w2⟩ := DataW.trod_int Tryd.underlying3 g2
    obtain ⟨hs, e0, l0, b0⟩ := open_keyJ (by rw [List.length_take]; omega) g0
    refine ⟨⟨hs, fi, le⟩, ?_, ⟨l0, b0, bounds_i64 w1, bounds_i64 w2⟩⟩
    unfold jfV
    rw [← e0]
    have e4 : cs = cs.take 32 ++ (cs.drop 32).take 1 ++ (cs.drop 33).take 1 := by
      rw [List.append_assoc]
      have : (cs.drop 32).take 1 ++ (cs.drop 33).take 1 = cs.drop 32 := by
        have h11 : (cs.drop 33).take 1 = (cs.drop 32).drop 1 := by rw [List.drop_drop, List.take_of_length_le (by rw [List.length_drop]; omega)]
        rw [h11, List.take_append_drop]
      rw [this, List.take_append_drop]
    rw [e1, e2, List.append_assoc] at e4
    exact e4
end
end Go.Proofs.YtpeopejnkbmcdaaDoor
