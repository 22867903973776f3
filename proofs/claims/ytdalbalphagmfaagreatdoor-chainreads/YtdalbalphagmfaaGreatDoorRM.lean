/- From a walk to a row: an argument that is a slice of bytes, opened; what the row asks of memory behind the call, out of what the walk leaves. What the row's list gives: the tables of math/bits, sha and wire lie in memory as the program's text lays them; a ref as an argument, opened. -/
import Derived.Test.YtdalbalphagmfaaGreatDoorCards
import Derived.Test.YtdalbalphagmfaaGreatDoorTie
import Derived.Test.YtdalbalphagmfaaGreatDoorQC
import Derived.ProofKit
import Derived.OpenShut
import Derived.Deep.DeepHandedRow
import Derived.Lib.LaidTab
import Derived.SizedLaws
import Derived.Test.YtdalbalphagmfaaGreatDoorRI
import Derived.Stop.LaidErr
namespace Go.Proofs.YtdalbalphagmfaaGreatDoor
open Go.ChangeShapes Go.WideShapes Go.ChangeAt Go.RowKit

theorem own : ownKnob Tryz.prog.godebug = none := by kernel_rfl
theorem laidOut : laidOutB Tryz.prog = true := by kernel_rfl
theorem cells8 : Tryz.prog.cellsOf 5 = 1 := by kernel_rfl
section
variable {H : Type} {enc : TypeId × Value → H}

/-- All arguments read behind the call as they read before it. -/
theorem trodAll_below {P : Program} (hl : laidOutB P = true) {W W' : World} (hb : Below W.heap.size W W') : ∀ (ts : List TypeId) (vs : List Value) (ds : List (DataW H)) (ps : List MemPlace),
 (∀ t ∈ ts, P.readableRec t = true ∧ t < P.types.size) → DataW.TrodAll enc P W 0 (fun _ => true) true ts vs ds ps → (∀ x ∈ ps, x.block < W.heap.size) →
 DataW.TrodAll enc P W' 0 (fun b => decide (b < W.heap.size)) true ts vs ds ps
 | [], [], [], _, _, h, _ => h
 | t :: ts, v :: vs, d :: ds, _, hr, ⟨p, q, h1, h2, e⟩, hlt =>
   ⟨p, q, Below.trod hl (hr t (by simp)).1 (hr t (by simp)).2 h1 hb (fun x hx => hlt x (by rw [e]; exact List.mem_append_left _ hx)),
     trodAll_below hl hb ts vs ds q (fun t ht => hr t (by simp [ht])) h2 (fun x hx => hlt x (by rw [e]; exact List.mem_append_right _ hx)), e⟩
 | [], _ :: _, _, _, _, h, _ => h.elim
 | [], [], _ :: _, _, _, h, _ => h.elim
 | _ :: _, [], _, _, _, h, _ => h.elim
 | _ :: _, _ :: _, [], _, _, h, _ => h.elim

/-- What a law's row asks behind the call: it returned true, and below the new blocks nothing has turned. -/
theorem law_post {fn : Func} {s : ChangeSpec} {W W' : World} {args : Array Value} {ds gs : List (DataW H)} {before : List MemPlace}
 (hW : DataW.Whole enc Tryz.prog fn.params.toList s.vars false W args.toList ds gs before) (hv : s.vars = []) (hs : s.fn H (ds ++ gs) = { results := [.lit (.bool true)], args := ds }) (hrt : fn.resultTypes = #[4])
 (hr : ∀ t ∈ fn.params.toList, Tryz.prog.readableRec t = true ∧ t < Tryz.prog.types.size) (hb : Below W.heap.size W W') : s.post enc Tryz.prog fn false true false false W args (.bool true) W' := by
 have hW' := hW
 obtain ⟨p, q, hA, hV, rfl, _, _⟩ := hW
 rw [hv] at hV
 have hlt := hW'.lt
 refine ⟨ds, gs, p ++ q, [], p, [], hW', ?_, ?_, ?_, hb.frame _, fun h => by cases h⟩
 · rw [hs, hrt]
   exact trodAll_cons_mk (shut_bool Tryz.underlying4 _) trodAll_mk0
 · rw [hs]
   exact trodAll_below laidOut hb _ _ _ _ hr hA (fun x hx => hlt x (List.mem_append_left _ hx))
 · rw [hs, hv]
   rfl
end
end Go.Proofs.YtdalbalphagmfaaGreatDoor

namespace Go.Proofs.YtdalbalphagmfaaGreatDoor
open Go.ChangeShapes Go.WideShapes Go.ChangeAt Go.RowKit

theorem cells32 : Tryz.prog.cellsOf 165 = 1 := by kernel_rfl
theorem cellsTab : Tryz.prog.cellsOf 203 = 16 := by kernel_rfl
theorem cells64 : Tryz.prog.cellsOf 193 = 64 := by kernel_rfl
theorem cellsS : Tryz.prog.cellsOf 192 = 8 := by kernel_rfl
theorem cellsK : Tryz.prog.cellsOf 167 = 64 := by kernel_rfl
theorem gZ : Tryz.prog.globalNamed "math/bits.deBruijn64tab" = some 2 := by kernel_rfl
theorem gS : Tryz.prog.globalNamed "kiln/sha.startWords" = some 0 := by kernel_rfl
theorem gK : Tryz.prog.globalNamed "kiln/sha.roundWords" = some 3 := by kernel_rfl
theorem gTab : Tryz.prog.globalNamed "kiln/wire.sumSteps" = some 1 := by kernel_rfl
theorem gZType : (Tryz.prog.globals[2]?).map (·.type) = some 193 := by kernel_rfl
theorem gSType : (Tryz.prog.globals[0]?).map (·.type) = some 192 := by kernel_rfl
theorem gKType : (Tryz.prog.globals[3]?).map (·.type) = some 167 := by kernel_rfl
theorem gTabType : (Tryz.prog.globals[1]?).map (·.type) = some 203 := by kernel_rfl
def sTab : List Int := [1779033703, 3144134277, 1013904242, 2773480762, 1359893119, 2600822924, 528734635, 1541459225]
theorem tt_of {W : World} (h : laidMetH Tryz.prog [("math/bits.deBruijn64tab", Rows.laid_math_bits_deBruijn64tab), ("kiln/sha.startWords", Rows.laid_kiln_sha_startWords), ("kiln/sha.roundWords", Rows.laid_kiln_sha_roundWords), ("kiln/wire.sumSteps", Rows.laid_kiln_wire_sumSteps)] W) : TT W := by
 have h1 : laidMet Tryz.prog [("math/bits.deBruijn64tab", Rows.laid_math_bits_deBruijn64tab), ("kiln/sha.startWords", Rows.laid_kiln_sha_startWords), ("kiln/sha.roundWords", Rows.laid_kiln_sha_roundWords), ("kiln/wire.sumSteps", Rows.laid_kiln_wire_sumSteps)] W := h
 have h2 := laidMet.tail h1
 have h3 := laidMet.tail h2
 have h4 := laidMet.tail h3
 have tz : Lib.TabIs Tryz.prog W "math/bits.deBruijn64tab" .u8 (Lib.deBruijn64tab.map fun n : Nat => (n : Int)) := Lib.tabIs_of_head gZ gZType Tryz.underlying193 Tryz.underlying5 cells8 cells64 h1
 have ts : Lib.TabIs Tryz.prog W "kiln/sha.startWords" .u32 sTab := Lib.tabIs_of_head gS gSType Tryz.underlying192 Tryz.underlying165 cells32 cellsS h2
 have tk : Lib.TabIs Tryz.prog W "kiln/sha.roundWords" .u32 kTab := Lib.tabIs_of_head gK gKType Tryz.underlying167 Tryz.underlying165 cells32 cellsK h3
 have tt : Lib.TabIs Tryz.prog W "kiln/wire.sumSteps" .u32 (tab4.map fun n : Nat => (n : Int)) := Lib.tabIs_of_head gTab gTabType Tryz.underlying203 Tryz.underlying165 cells32 cellsTab h4
 refine ⟨fun i hi => ?_, fun i hi => tk.cell gK i hi, fun i hi => ?_, fun i hi => ?_⟩
 · have h9 := tt.cell gTab i (by simp only [List.length_map]; exact hi)
   rw [h9]
   congr 2
   have hl : i < tab4.length := hi
   simp [List.getD_eq_getElem?_getD, hl]
 · have h9 := ts.cell gS i hi
   rw [h9]
   rcases (show i = 0 ∨ i = 1 ∨ i = 2 ∨ i = 3 ∨ i = 4 ∨ i = 5 ∨ i = 6 ∨ i = 7 by omega) with rfl | rfl | rfl | rfl | rfl | rfl | rfl | rfl <;> rfl
 · have h9 := tz.cell gZ i (by rw [List.length_map]; exact hi)
   rw [h9, List.getD_eq_getElem?_getD, List.getElem?_map, List.getD_eq_getElem?_getD]
   cases Lib.deBruijn64tab[i]? <;> rfl
theorem cellsKey : Tryz.prog.cellsOf 36 = 32 := by kernel_rfl
theorem cellsRef : Tryz.prog.cellsOf 38 = 34 := by kernel_rfl
theorem cellsI : Tryz.prog.cellsOf 3 = 1 := by kernel_rfl
theorem bytes_of : ∀ (cs : List Value), (∀ i, i < cs.length → ∃ k : Int, cs[i]? = some (.int .u8 k) ∧ 0 ≤ k ∧ k ≤ 255) → ∃ hs : List Int, cs = hs.map (Value.int .u8) ∧ ∀ x ∈ hs, 0 ≤ x ∧ x ≤ 255
 | [], _ => ⟨[], rfl, by simp⟩
 | c :: cs, h => by
   obtain ⟨k, e, b⟩ := h 0 (by simp)
   obtain ⟨hs, e2, b2⟩ := bytes_of cs (fun i hi => by simpa using h (i + 1) (by simp; omega))
   simp at e
   refine ⟨k :: hs, by rw [List.map_cons, e, e2], fun x hx => ?_⟩
   rcases List.mem_cons.1 hx with rfl | hx
   · exact b
   · exact b2 x hx
section
variable {H : Type} {enc : TypeId × Value → H}
set_option maxRecDepth 100000 in
theorem open_refC {W : World} {fuel : Nat} {cs : List Value} {x : DataW H × List MemPlace} (hf : DataW.trod enc Tryz.prog W 0 (fun _ => true) true fuel 38 cs = some x) :
 ∃ (hs : List Int) (fi le : Int), cs = refV hs fi le ∧ hs.length = 32 ∧ (∀ x ∈ hs, 0 ≤ x ∧ x ≤ 255) ∧ (-9223372036854775808 ≤ fi ∧ fi ≤ 9223372036854775807) ∧ (-9223372036854775808 ≤ le ∧ le ≤ 9223372036854775807) := by
 obtain ⟨xs, n, rfl, rfl, hl, hxl, hfs⟩ := DataW.trod_struct Tryz.underlying38 hf
 rw [cellsRef] at hl
 match xs, hxl with
 | [x0, x1, x2], _ =>
   have g0 : DataW.trod enc Tryz.prog W 0 (fun _ => true) true n 36 ((cs.drop 0).take (Tryz.prog.cellsOf 36)) = some x0 := hfs 0 _ rfl
   have g1 : DataW.trod enc Tryz.prog W 0 (fun _ => true) true n 3 ((cs.drop 32).take (Tryz.prog.cellsOf 3)) = some x1 := hfs 1 _ rfl
   have g2 : DataW.trod enc Tryz.prog W 0 (fun _ => true) true n 3 ((cs.drop 33).take (Tryz.prog.cellsOf 3)) = some x2 := hfs 2 _ rfl
   rw [cellsKey, List.drop_zero] at g0
   rw [cellsI] at g1 g2
   obtain ⟨fi, e1, _, w1⟩ := DataW.trod_int Tryz.underlying3 g1
   obtain ⟨le, e2, _, w2⟩ := DataW.trod_int Tryz.underlying3 g2
   obtain ⟨ys, m, rfl, _, hl0, hyl, hys⟩ := DataW.trod_array Tryz.underlying36 g0
   rw [cells8] at hys
   obtain ⟨hs, e0, b0⟩ := bytes_of (cs.take 32) (fun i hi => by
    rw [List.length_take] at hi
    obtain ⟨y, hy⟩ : ∃ y, ys[i]? = some y := ⟨_, List.getElem?_eq_getElem (by omega)⟩
    have h9 := hys i (by omega)
    rw [hy] at h9
    obtain ⟨k, e3, _, w3⟩ := DataW.trod_int Tryz.underlying5 h9
    refine ⟨k, ?_, bounds_u8 w3⟩
    have h10 : (((cs.take 32).drop (i * 1)).take 1)[0]? = some (.int .u8 k) := by rw [e3]; rfl
    rw [List.getElem?_take_of_lt (by omega), List.getElem?_drop] at h10
    simpa using h10)
   refine ⟨hs, fi, le, ?_, ?_, b0, bounds_i64 w1, bounds_i64 w2⟩
   · unfold refV
     rw [← e0]
     have e4 : cs = cs.take 32 ++ (cs.drop 32).take 1 ++ (cs.drop 33).take 1 := by
      rw [List.append_assoc]
      have : (cs.drop 32).take 1 ++ (cs.drop 33).take 1 = cs.drop 32 := by
       have h11 : (cs.drop 33).take 1 = (cs.drop 32).drop 1 := by rw [List.drop_drop, List.take_of_length_le (by rw [List.length_drop]; omega)]
       rw [h11, List.take_append_drop]
      rw [this, List.take_append_drop]
     rw [e1, e2, List.append_assoc] at e4
     exact e4
   · have h12 := congrArg List.length e0
     rw [List.length_take, List.length_map] at h12
     omega
set_option maxRecDepth 100000 in
theorem open_ref {W : World} {base : Nat} {v : Value} {d : DataW H} {p : List MemPlace} (hv : Value.okWide Tryz.prog W .any base 38 v) (h : DataW.Trod enc Tryz.prog W 0 (fun _ => true) true 38 v d p) :
 ∃ (hs : List Int) (fi le : Int), v = .agg (refV hs fi le).toArray ∧ hs.length = 32 ∧ (∀ x ∈ hs, 0 ≤ x ∧ x ≤ 255) ∧ (-9223372036854775808 ≤ fi ∧ fi ≤ 9223372036854775807) ∧ (-9223372036854775808 ≤ le ∧ le ≤ 9223372036854775807) := by
 unfold Value.okWide at hv
 rw [Tryz.underlying38] at hv
 obtain ⟨cs, rfl, _, _⟩ := hv
 obtain ⟨fuel, hf⟩ := h
 obtain ⟨hs, fi, le, e, h1, h2, h3, h4⟩ := open_refC hf
 refine ⟨hs, fi, le, ?_, h1, h2, h3, h4⟩
 rw [← e]
 simp [Value.cells]
end
end Go.Proofs.YtdalbalphagmfaaGreatDoor
