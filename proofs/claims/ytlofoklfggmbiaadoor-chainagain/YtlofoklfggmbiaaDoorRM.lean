/- From a walk to a row: an argument that is a slice of bytes, opened; what the row asks of memory behind the call, out of what the walk leaves. What the row's list gives: the tables of math/bits, sha and wire lie in memory as the program's text lays them; a ref as an argument, opened. An argument that is a slice of slices of bytes, opened. -/
import Derived.Test.YtlofoklfggmbiaaDoorCards
import Derived.Test.YtlofoklfggmbiaaDoorTie
import Derived.Test.YtlofoklfggmbiaaDoorQC
import Derived.ProofKit
import Derived.OpenShut
import Derived.Deep.DeepHandedRow
import Derived.Lib.LaidTab
import Derived.SizedLaws
import Derived.Test.YtlofoklfggmbiaaDoorRI
import Derived.Stop.LaidErr
import Derived.Deep.Slices
namespace Go.Proofs.YtlofoklfggmbiaaDoor
open Go.ChangeShapes Go.WideShapes Go.ChangeAt Go.RowKit

theorem own : ownKnob Tryd.prog.godebug = none := by kernel_rfl
theorem laidOut : laidOutB Tryd.prog = true := by kernel_rfl
theorem cells8 : Tryd.prog.cellsOf 5 = 1 := by kernel_rfl
section
variable {H : Type} {enc : TypeId × Value → H}

/-- All arguments read behind the call as they read before it. -/
theorem trodAll_below {P : Program} (hl : laidOutB P = true) {W W' : World} (hb : Below W.heap.size W W') : ∀ (ts : List TypeId) (vs : List Value) (ds : List (DataW H)) (ps : List MemPlace),
 (∀ t ∈ ts, P.readableRec t = true ∧ t < P.types.size) → DataW.TrodAll enc P W 0 (fun _ => true) true ts vs ds ps → (∀ x ∈ ps, x.block < W.heap.size) →
 DataW.TrodAll enc P W' 0 (fun b => decide (b < W.heap.size)) true ts vs ds ps
 | [], [], [], _, _, h, _ => h
 | t :: ts, v :: vs, d :: ds, _, hr, ⟨p, q, h1, h2, e⟩, hlt =>
   ⟨p, q, Below.trod hl (hr t (by simp)).1 (hr t (by simp)).2 h1 hb (fun x hx => hlt x (by rw [e]; exact List.mem_append_left _ hx)),
     trodAll_below hl hb ts vs ds q (fun t ht => hr t (by simp [ht])) h2 (fun x hx => hlt x (by rw [e]; exact List.mem_append_right _ hx)), e⟩
 | [], _ :: _, _, _, _, h, _ => h.elim
 | [], [], _ :: _, _, _, h, _ => h.elim
 | _ :: _, [], _, _, _, h, _ => h.elim
 | _ :: _, _ :: _, [], _, _, h, _ => h.elim

/-- What a law's row asks behind the call: it returned true, and below the new blocks nothing has turned. -/
theorem law_post {fn : Func} {s : ChangeSpec} {W W' : World} {args : Array Value} {ds gs : List (DataW H)} {before : List MemPlace}
 (hW : DataW.Whole enc Tryd.prog fn.params.toList s.vars false W args.toList ds gs before) (hv : s.vars = []) (hs : s.fn H (ds ++ gs) = { results := [.lit (.bool true)], args := ds }) (hrt : fn.resultTypes = #[4])
 (hr : ∀ t ∈ fn.params.toList, Tryd.prog.readableRec t = true ∧ t < Tryd.prog.types.size) (hb : Below W.heap.size W W') : s.post enc Tryd.prog fn false true false false W args (.bool true) W' := by
 have hW' := hW
 obtain ⟨p, q, hA, hV, rfl, _, _⟩ := hW
 rw [hv] at hV
 have hlt := hW'.lt
 refine ⟨ds, gs, p ++ q, [], p, [], hW', ?_, ?_, ?_, hb.frame _, fun h => by cases h⟩
 · rw [hs, hrt]
   exact trodAll_cons_mk (shut_bool Tryd.underlying4 _) trodAll_mk0
 · rw [hs]
   exact trodAll_below laidOut hb _ _ _ _ hr hA (fun x hx => hlt x (List.mem_append_left _ hx))
 · rw [hs, hv]
   rfl
end
end Go.Proofs.YtlofoklfggmbiaaDoor

namespace Go.Proofs.YtlofoklfggmbiaaDoor
open Go.ChangeShapes Go.WideShapes Go.ChangeAt Go.RowKit

theorem cells32 : Tryd.prog.cellsOf 152 = 1 := by kernel_rfl
theorem cellsTab : Tryd.prog.cellsOf 179 = 16 := by kernel_rfl
theorem cells64 : Tryd.prog.cellsOf 155 = 64 := by kernel_rfl
theorem cellsS : Tryd.prog.cellsOf 154 = 8 := by kernel_rfl
theorem cellsK : Tryd.prog.cellsOf 170 = 64 := by kernel_rfl
theorem gZ : Tryd.prog.globalNamed "math/bits.deBruijn64tab" = some 3 := by kernel_rfl
theorem gS : Tryd.prog.globalNamed "kiln/sha.startWords" = some 0 := by kernel_rfl
theorem gK : Tryd.prog.globalNamed "kiln/sha.roundWords" = some 1 := by kernel_rfl
theorem gTab : Tryd.prog.globalNamed "kiln/wire.sumSteps" = some 2 := by kernel_rfl
theorem gZType : (Tryd.prog.globals[3]?).map (·.type) = some 155 := by kernel_rfl
theorem gSType : (Tryd.prog.globals[0]?).map (·.type) = some 154 := by kernel_rfl
theorem gKType : (Tryd.prog.globals[1]?).map (·.type) = some 170 := by kernel_rfl
theorem gTabType : (Tryd.prog.globals[2]?).map (·.type) = some 179 := by kernel_rfl
def sTab : List Int := [1779033703, 3144134277, 1013904242, 2773480762, 1359893119, 2600822924, 528734635, 1541459225]
theorem tt_of {W : World} (h : laidMetH Tryd.prog [("math/bits.deBruijn64tab", Rows.laid_math_bits_deBruijn64tab), ("kiln/sha.startWords", Rows.laid_kiln_sha_startWords), ("kiln/sha.roundWords", Rows.laid_kiln_sha_roundWords), ("kiln/wire.sumSteps", Rows.laid_kiln_wire_sumSteps)] W) : TT W := by
 have h1 : laidMet Tryd.prog [("math/bits.deBruijn64tab", Rows.laid_math_bits_deBruijn64tab), ("kiln/sha.startWords", Rows.laid_kiln_sha_startWords), ("kiln/sha.roundWords", Rows.laid_kiln_sha_roundWords), ("kiln/wire.sumSteps", Rows.laid_kiln_wire_sumSteps)] W := h
 have h2 := laidMet.tail h1
 have h3 := laidMet.tail h2
 have h4 := laidMet.tail h3
 have tz : Lib.TabIs Tryd.prog W "math/bits.deBruijn64tab" .u8 (Lib.deBruijn64tab.map fun n : Nat => (n : Int)) := Lib.tabIs_of_head gZ gZType Tryd.underlying155 Tryd.underlying5 cells8 cells64 h1
 have ts : Lib.TabIs Tryd.prog W "kiln/sha.startWords" .u32 sTab := Lib.tabIs_of_head gS gSType Tryd.underlying154 Tryd.underlying152 cells32 cellsS h2
 have tk : Lib.TabIs Tryd.prog W "kiln/sha.roundWords" .u32 kTab := Lib.tabIs_of_head gK gKType Tryd.underlying170 Tryd.underlying152 cells32 cellsK h3
 have tt : Lib.TabIs Tryd.prog W "kiln/wire.sumSteps" .u32 (tab4.map fun n : Nat => (n : Int)) := Lib.tabIs_of_head gTab gTabType Tryd.underlying179 Tryd.underlying152 cells32 cellsTab h4
 refine ⟨fun i hi => ?_, fun i hi => tk.cell gK i hi, fun i hi => ?_, fun i hi => ?_⟩
 · have h9 := tt.cell gTab i (by simp only [List.length_map]; exact hi)
   rw [h9]
   congr 2
   have hl : i < tab4.length := hi
   simp [List.getD_eq_getElem?_getD, hl]
 · have h9 := ts.cell gS i hi
   rw [h9]
   rcases (show i = 0 ∨ i = 1 ∨ i = 2 ∨ i = 3 ∨ i = 4 ∨ i = 5 ∨ i = 6 ∨ i = 7 by omega) with rfl | rfl | rfl | rfl | rfl | rfl | rfl | rfl <;> rfl
 · have h9 := tz.cell gZ i (by rw [List.length_map]; exact hi)
   rw [h9, List.getD_eq_getElem?_getD, List.getElem?_map, List.getD_eq_getElem?_getD]
   cases Lib.deBruijn64tab[i]? <;> rfl
end Go.Proofs.YtlofoklfggmbiaaDoor

namespace Go.Proofs.YtlofoklfggmbiaaDoor
open Go.ChangeShapes Go.WideShapes Go.ChangeAt Go.RowKit Go.Deep
section
variable {H : Type} {enc : TypeId × Value → H}

theorem cellsSl : Tryd.prog.cellsOf 26 = 1 := by kernel_rfl
/-- A slice of bytes, wherever it lies. -/
theorem open_bytes1 {W : World} {fuel : Nat} {v : Value} {x : DataW H × List MemPlace} (hf : DataW.trod enc Tryd.prog W 0 (fun _ => true) true fuel 26 [v] = some x) :
 ∃ xs, IsB W v xs ∧ (xs = [] ∨ ∃ spare, x.1 = .slice (lits .u8 xs) spare) := by
 rcases open_ints Tryd.underlying26 Tryd.underlying5 cells8 hf with ⟨hcs, hx⟩ | ⟨ad, len, cap, zs, hcs, _, hl, hm, hz, hx, hcell, hwz⟩
 · simp only [List.cons.injEq, and_true] at hcs
   subst hcs
   exact ⟨[], ⟨by simp, none, 0, rfl, by simp, by omega, fun _ => rfl, fun h => by simp at h⟩, Or.inl rfl⟩
 · simp only [List.cons.injEq, and_true] at hcs
   subst hcs
   simp only [if_true] at hz
   have hlen : (zs.take len).length = len := by simp; omega
   refine ⟨zs.take len, ⟨?_, some ad, cap, by rw [hlen], by omega, by simpa [maxLen] using hm, (fun h => by cases h), ?_⟩, Or.inr ⟨lits .u8 (zs.drop len), by rw [hx]⟩⟩
   · refine bytes_mem fun x hxm => ?_
     have := hwz x (List.mem_of_mem_take hxm)
     have := bounds_u8 this
     omega
   · intro hp
     obtain ⟨b, off, rfl, hc⟩ := ints_at hcell (by omega)
     refine ⟨b, off, rfl, fun j hj => ?_⟩
     rw [hc j (by omega), List.getD_eq_getElem?_getD, List.getD_eq_getElem?_getD, List.getElem?_take_of_lt (by omega)]
/-- A slice of slices of bytes. -/
theorem open_bytess1 {W : World} {fuel : Nat} {v : Value} {x : DataW H × List MemPlace} (hf : DataW.trod enc Tryd.prog W 0 (fun _ => true) true fuel 52 [v] = some x) :
 ∃ xss, IsBB W v xss := by
 rcases open_slice1 Tryd.underlying52 cellsSl hf with ⟨hcs, hx⟩ | ⟨ad, len, cap, m, n, V, D, Pl, hcs, _, hl, hm, hmm, hx, hcell⟩
 · simp only [List.cons.injEq, and_true] at hcs
   subst hcs
   exact ⟨[], isBB_nil W none 0 (by decide)⟩
 · simp only [List.cons.injEq, and_true] at hcs
   subst hcs
   simp only [if_true] at hmm
   obtain rfl := hmm.symm
   obtain ⟨X, hX⟩ := choose_lt (α := List Int) (n := len) (p := fun i xs => IsB W (V i) xs) (fun i hi => by
    obtain ⟨xs, h1, _⟩ := open_bytes1 (hcell i (by omega)).2
    exact ⟨xs, h1⟩)
   have hlen : ((List.range len).map X).length = len := by simp
   refine ⟨(List.range len).map X, ⟨some ad, cap, by rw [hlen], by omega, by simpa [maxLen] using hm, fun hp => ?_⟩⟩
   rw [hlen] at hp ⊢
   obtain ⟨b, off, spot⟩ := ad
   have hspot : spot = none := by simpa [Addr.add] using World.cell?_spot (hcell 0 (by omega)).1
   subst hspot
   refine ⟨b, off, rfl, fun j hj => ⟨V j, by rw [← Go.WideShapes.add_plain]; exact (hcell j (by omega)).1, ?_⟩⟩
   have e : ((List.range len).map X).getD j [] = X j := by simp [List.getD_eq_getElem?_getD, hj]
   rw [e]
   exact hX j hj
set_option maxRecDepth 100000 in
/-- An argument that is a slice of slices of bytes. -/
theorem open_bytess {W : World} {base : Nat} {v : Value} {d : DataW H} {p : List MemPlace} (hv : Value.okWide Tryd.prog W .any base 52 v) (h : DataW.Trod enc Tryd.prog W 0 (fun _ => true) true 52 v d p) : ∃ xss, IsBB W v xss := by
 obtain ⟨a, len, cap, rfl⟩ := okWide_slice Tryd.underlying52 hv
 obtain ⟨fuel, hf⟩ := h
 exact open_bytess1 hf
end
end Go.Proofs.YtlofoklfggmbiaaDoor
