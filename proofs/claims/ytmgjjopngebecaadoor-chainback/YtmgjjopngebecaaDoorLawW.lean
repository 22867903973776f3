/- What the row gives where it does not list wire's table of the sum: that table holds some sixteen numbers of 32 bits; the others lie as the program's text lays them. -/
import Derived.Test.YtmgjjopngebecaaDoorZRM
import Derived.Test.YtmgjjopngebecaaDoorZLawV
import Derived.Test.YtmgjjopngebecaaDoorZLdK
namespace Go.Proofs.YtmgjjopngebecaaDoor
open Go.ChangeShapes Go.WideShapes Go.ChangeAt Go.RowKit Go.Deep

theorem typesTab : Tryd.prog.cellTypes Tryd.prog.depth 150 = some (List.replicate 16 110) := by kernel_rfl
theorem buildTab : Tryd.prog.buildable 150 = true := by kernel_rfl
theorem zeroTab : ((begin Tryd.prog (fun _ _ => 0) default).world.heap[(1 : Nat)]?).bind Obj.row? = some ((List.replicate 16 (Value.int .u32 0)).toArray, 150) := by kernel_rfl
theorem sizeTab : (1 : Nat) < Tryd.prog.globals.size := of_decide_eq_true (by kernel_rfl)
set_option maxRecDepth 100000 in
theorem tab_any {W : World} (h : W.ShapedOpen Tryd.prog) : ∃ T : SumTab, ∀ i, i < 16 → W.cell? ⟨1, i, none⟩ = some (.int .u32 ((T.tab.getD i 0 : Nat) : Int)) := by
  obtain ⟨cs, hh, hs, hr⟩ := h.1 _ _ _ sizeTab zeroTab
  have hsz : cs.size = 16 := by simpa using hs
  obtain ⟨ts, hts, _, hall⟩ := hr buildTab
  rw [typesTab] at hts
  injection hts with hts
  subst hts
  obtain ⟨O, hO⟩ := choose_lt (α := Nat) (n := 16) (p := fun i x => x < 2 ^ 32 ∧ W.cell? ⟨1, i, none⟩ = some (.int .u32 (x : Int))) (fun i hi => by
    have hi2 : i < cs.size := by omega
    obtain ⟨u, hu, hok⟩ := hall i cs[i] (by simp [hi2])
    rw [List.length_replicate, List.getElem?_replicate, if_pos (Nat.mod_lt _ (by decide))] at hu
    injection hu with hu
    subst hu
    have hcell : W.cell? ⟨1, i, none⟩ = some cs[i] := by simp [World.cell?, hh, hi2]
    rw [hcell]
    unfold Cell.ok at hok
    rw [Tryd.underlying110] at hok
    cases hv : cs[i] with
    | int k x =>
      rw [hv] at hok
      obtain ⟨rfl, hx⟩ := hok
      have hb : (0 : Int) ≤ x ∧ x ≤ 4294967295 := hx
      exact ⟨x.toNat, by omega, by rw [Int.toNat_of_nonneg hb.1]⟩
    | _ => rw [hv] at hok; simp at hok)
  have hg : ∀ i, i < 16 → ((List.range 16).map O).getD i 0 = O i := fun i hi => by
    rw [List.getD_eq_getElem?_getD, List.getElem?_map, List.getElem?_range hi]
    rfl
  exact ⟨⟨(List.range 16).map O, fun i hi => by rw [hg i hi]; exact (hO i hi).1⟩, fun i hi => by rw [show ((⟨(List.range 16).map O, fun i hi => by rw [hg i hi]; exact (hO i hi).1⟩ : SumTab).tab.getD i 0) = O i from hg i hi]; exact (hO i hi).2⟩
theorem tt_of3 {W : World} (h : laidMetH Tryd.prog [("math/bits.deBruijn64tab", Rows.laid_math_bits_deBruijn64tab), ("kiln/sha.startWords", Rows.laid_kiln_sha_startWords), ("kiln/sha.roundWords", Rows.laid_kiln_sha_roundWords)] W) (hsh : W.ShapedOpen Tryd.prog) : ∃ T : SumTab, @TT ⟨T⟩ W := by
  have h1 : laidMet Tryd.prog [("math/bits.deBruijn64tab", Rows.laid_math_bits_deBruijn64tab), ("kiln/sha.startWords", Rows.laid_kiln_sha_startWords), ("kiln/sha.roundWords", Rows.laid_kiln_sha_roundWords)] W := h
  have h2 := laidMet.tail h1
  have h3 := laidMet.tail h2
  have tz : Lib.TabIs Tryd.prog W "math/bits.deBruijn64tab" .u8 (Lib.deBruijn64tab.map fun n : Nat => (n : Int)) := Lib.tabIs_of_head gZ gZType Tryd.underlying145 Tryd.underlying5 cells8 cells64 h1
  have ts : Lib.TabIs Tryd.prog W "kiln/sha.startWords" .u32 sTab := Lib.tabIs_of_head gS gSType Tryd.underlying144 Tryd.underlying110 cells32 cellsS h2
  have tk : Lib.TabIs Tryd.prog W "kiln/sha.roundWords" .u32 kTab := Lib.tabIs_of_head gK gKType Tryd.underlying122 Tryd.underlying110 cells32 cellsK h3
  obtain ⟨T, hT⟩ := tab_any hsh
  refine ⟨T, @TT.mk ⟨T⟩ W (fun i hi => hT i hi) (fun i hi => tk.cell gK i hi) (fun i hi => ?_) (fun i hi => ?_)⟩
  · have h9 := ts.cell gS i hi
    rw [h9]
    rcases (show i = 0 ∨ i = 1 ∨ i = 2 ∨ i = 3 ∨ i = 4 ∨ i = 5 ∨ i = 6 ∨ i = 7 by omega) with rfl | rfl | rfl | rfl | rfl | rfl | rfl | rfl <;> rfl
  · have h9 := tz.cell gZ i (by rw [List.length_map]; exact hi)
    rw [h9, List.getD_eq_getElem?_getD, List.getElem?_map, List.getD_eq_getElem?_getD]
    cases Lib.deBruijn64tab[i]? <;> rfl
/-- ChainBack, whatever wire's table of the sum holds. -/
theorem back_walk3 {w : World} {sn fn tn heap : Int} {ra ta ba : Option Addr} {rn rc tl tc bn bc : Nat} {raw : List (Int × List Int)} {tk : List Int} {bs : List Int} (hr : IsSpots w (.slice ra rn rc) raw) (htk : IsT w (.slice ta tl tc) tk) (hb : IsB w (.slice ba bn bc) bs) (hT : ∃ T : SumTab, @TT ⟨T⟩ w) :
    Calls Tryd.prog 5 #[.agg #[.int .i64 sn, .slice ra rn rc, .int .i64 fn, .int .i64 tn, .slice ta tl tc], .slice ba bn bc, .int .i64 heap] w fun e w' => e = .returned (.bool true) ∧ Below w.heap.size w w' := by
  obtain ⟨T, hT⟩ := hT
  exact @back_walk ⟨T⟩ _ _ _ _ _ _ _ _ _ _ _ _ _ _ _ _ _ hr htk hb hT
end Go.Proofs.YtmgjjopngebecaaDoor
