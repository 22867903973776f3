/- An argument that is a slice of slices of bytes, opened. An argument that is a scene, opened. -/
import Derived.Test.YtdalbalphagmfaaGreatDoorRM
import Derived.Test.YtdalbalphagmfaaGreatDoorQC
import Derived.Deep.Slices
import Derived.Test.YtdalbalphagmfaaGreatDoorSJ
namespace Go.Proofs.YtdalbalphagmfaaGreatDoor
open Go.ChangeShapes Go.WideShapes Go.ChangeAt Go.RowKit Go.Deep
section
variable {H : Type} {enc : TypeId × Value → H}

theorem cellsSl : Tryz.prog.cellsOf 26 = 1 := by kernel_rfl
/-- A slice of bytes, wherever it lies. -/
theorem open_bytes1 {W : World} {fuel : Nat} {v : Value} {x : DataW H × List MemPlace} (hf : DataW.trod enc Tryz.prog W 0 (fun _ => true) true fuel 26 [v] = some x) :
 ∃ xs, IsB W v xs ∧ (xs = [] ∨ ∃ spare, x.1 = .slice (lits .u8 xs) spare) := by
 rcases open_ints Tryz.underlying26 Tryz.underlying5 cells8 hf with ⟨hcs, hx⟩ | ⟨ad, len, cap, zs, hcs, _, hl, hm, hz, hx, hcell, hwz⟩
 · simp only [List.cons.injEq, and_true] at hcs
   subst hcs
   exact ⟨[], ⟨by simp, none, 0, rfl, by simp, by omega, fun _ => rfl, fun h => by simp at h⟩, Or.inl rfl⟩
 · simp only [List.cons.injEq, and_true] at hcs
   subst hcs
   simp only [if_true] at hz
   have hlen : (zs.take len).length = len := by simp; omega
   refine ⟨zs.take len, ⟨?_, some ad, cap, by rw [hlen], by omega, by simpa [maxLen] using hm, (fun h => by cases h), ?_⟩, Or.inr ⟨lits .u8 (zs.drop len), by rw [hx]⟩⟩
   · refine bytes_mem fun x hxm => ?_
     have := hwz x (List.mem_of_mem_take hxm)
     have := bounds_u8 this
     omega
   · intro hp
     obtain ⟨b, off, rfl, hc⟩ := ints_at hcell (by omega)
     refine ⟨b, off, rfl, fun j hj => ?_⟩
     rw [hc j (by omega), List.getD_eq_getElem?_getD, List.getD_eq_getElem?_getD, List.getElem?_take_of_lt (by omega)]
end
end Go.Proofs.YtdalbalphagmfaaGreatDoor

namespace Go.Proofs.YtdalbalphagmfaaGreatDoor
open Go.ChangeShapes Go.WideShapes Go.ChangeAt Go.RowKit Go.Deep

theorem cellsSpot : Tryz.prog.cellsOf 69 = 2 := by kernel_rfl
theorem cellsScene : Tryz.prog.cellsOf 25 = 5 := by kernel_rfl
theorem cellsSpots : Tryz.prog.cellsOf 22 = 1 := by kernel_rfl
theorem cellsZs : Tryz.prog.cellsOf 23 = 1 := by kernel_rfl
section
variable {H : Type} {enc : TypeId × Value → H}
set_option maxRecDepth 100000 in
theorem open_spot {W : World} {fuel : Nat} {cs : List Value} {x : DataW H × List MemPlace} (hf : DataW.trod enc Tryz.prog W 0 (fun _ => true) true fuel 69 cs = some x) :
 ∃ (i : Int) (u : Value) (s : List Int), cs = [.int .i64 i, u] ∧ IsB W u s := by
 obtain ⟨xs, n, rfl, rfl, hl, hxl, hfs⟩ := DataW.trod_struct Tryz.underlying69 hf
 rw [cellsSpot] at hl
 match cs, hl with
 | [c0, c1], _ =>
   match xs, hxl with
   | [x0, x1], _ =>
     have g0 : DataW.trod enc Tryz.prog W 0 (fun _ => true) true n 3 (List.take (Tryz.prog.cellsOf 3) [c0, c1]) = some x0 := hfs 0 _ rfl
     rw [cellsI] at g0
     have h0 : DataW.trod enc Tryz.prog W 0 (fun _ => true) true n 3 [c0] = some x0 := g0
     have g1 : DataW.trod enc Tryz.prog W 0 (fun _ => true) true n 26 (List.take (Tryz.prog.cellsOf 26) [c1]) = some x1 := hfs 1 _ rfl
     rw [cellsSl] at g1
     have h1 : DataW.trod enc Tryz.prog W 0 (fun _ => true) true n 26 [c1] = some x1 := g1
     obtain ⟨K, e0, _, _⟩ := DataW.trod_int Tryz.underlying3 h0
     simp only [List.cons.injEq, and_true] at e0
     subst e0
     obtain ⟨ys, hB, _⟩ := open_bytes1 h1
     exact ⟨K, c1, ys, rfl, hB⟩
theorem open_spots1 {W : World} {fuel : Nat} {v : Value} {x : DataW H × List MemPlace} (hf : DataW.trod enc Tryz.prog W 0 (fun _ => true) true fuel 22 [v] = some x) : ∃ a n c l, v = .slice a n c ∧ IsSpots W (.slice a n c) l := by
 rcases open_slice Tryz.underlying22 hf with ⟨hcs, hx⟩ | ⟨ad, len, cap, m, n, D, Pl, hcs, _, hl, hm, hmm, hx, hcell⟩
 · simp only [List.cons.injEq, and_true] at hcs
   subst hcs
   exact ⟨none, 0, 0, [], rfl, ⟨none, 0, rfl, Nat.le_refl _, by omega, fun h => by simp at h⟩⟩
 · simp only [List.cons.injEq, and_true] at hcs
   subst hcs
   simp only [if_true] at hmm
   obtain rfl := hmm.symm
   rw [cellsSpot] at hcell
   obtain ⟨O, hO⟩ := choose_lt (α := Int × List Int) (n := len) (p := fun i s => W.cell? ((ad.add (i * 2)).add 0) = some (.int .i64 s.1) ∧ ∃ u, W.cell? ((ad.add (i * 2)).add 1) = some u ∧ IsB W u s.2) (fun i hi => by
    obtain ⟨cs', h1, h2⟩ := hcell i (by omega)
    obtain ⟨k, u, s, rfl, hB⟩ := open_spot h2
    obtain ⟨_, _, hc⟩ := World.cells?_some h1
    exact ⟨(k, s), hc 0 (by omega), u, hc 1 (by omega), hB⟩)
   have hlen : ((List.range len).map O).length = len := by simp
   have hget : ∀ j, j < len → ((List.range len).map O).getD j (0, []) = O j := fun j hj => by simp [List.getD_eq_getElem?_getD, hj]
   refine ⟨some ad, len, cap, (List.range len).map O, rfl, ⟨some ad, cap, by rw [hlen], by omega, by simpa [maxLen] using hm, fun hp => ?_⟩⟩
   rw [hlen] at hp ⊢
   obtain ⟨b, off, spot⟩ := ad
   have h00 := (hO 0 hp).1
   have hspot : spot = none := by simpa [Addr.add] using World.cell?_spot h00
   subst hspot
   refine ⟨b, off, rfl, fun j hj => ?_⟩
   rw [hget j hj]
   obtain ⟨h1, u, h2, h3⟩ := hO j hj
   rw [Go.WideShapes.add_plain, Go.WideShapes.add_plain] at h1 h2
   exact ⟨h1, u, by rw [Nat.add_assoc]; exact h2, h3⟩
theorem open_isT1 {W : World} {fuel : Nat} {v : Value} {x : DataW H × List MemPlace} (hf : DataW.trod enc Tryz.prog W 0 (fun _ => true) true fuel 23 [v] = some x) : ∃ a n c cs, v = .slice a n c ∧ IsT W (.slice a n c) cs := by
 rcases open_ints Tryz.underlying23 Tryz.underlying3 cellsI hf with ⟨hcs, hx⟩ | ⟨ad, len', cap', zs, hcs, _, hl, hm, hz, hx, hcell, hwz⟩
 · simp only [List.cons.injEq, and_true] at hcs
   subst hcs
   exact ⟨none, 0, 0, [], rfl, ⟨none, 0, rfl, by simp, by omega, fun h => by simp at h⟩⟩
 · simp only [List.cons.injEq, and_true] at hcs
   subst hcs
   simp only [if_true] at hz
   have hlen : (zs.take len').length = len' := by simp; omega
   refine ⟨some ad, len', cap', zs.take len', rfl, ⟨some ad, cap', by rw [hlen], by omega, by simpa [maxLen] using hm, ?_⟩⟩
   intro hp
   obtain ⟨b, off, rfl, hc⟩ := ints_at hcell (by omega)
   refine ⟨b, off, rfl, fun j hj => ?_⟩
   rw [hc j (by omega), List.getD_eq_getElem?_getD, List.getD_eq_getElem?_getD, List.getElem?_take_of_lt (by omega)]
set_option maxRecDepth 100000 in
theorem open_sceneC {W : World} {fuel : Nat} {cs : List Value} {x : DataW H × List MemPlace} (hf : DataW.trod enc Tryz.prog W 0 (fun _ => true) true fuel 25 cs = some x) :
 ∃ (sn fn tn : Int) (ra ta : Option Addr) (rn rc tl tc : Nat) (raw : List (Int × List Int)) (tk : List Int), cs = [.int .i64 sn, .slice ra rn rc, .int .i64 fn, .int .i64 tn, .slice ta tl tc] ∧ IsSpots W (.slice ra rn rc) raw ∧ IsT W (.slice ta tl tc) tk := by
 obtain ⟨xs, n, rfl, rfl, hl, hxl, hfs⟩ := DataW.trod_struct Tryz.underlying25 hf
 rw [cellsScene] at hl
 match cs, hl with
 | [c0, c1, c2, c3, c4], _ =>
   match xs, hxl with
   | [x0, x1, x2, x3, x4], _ =>
     have g0 : DataW.trod enc Tryz.prog W 0 (fun _ => true) true n 3 (List.take (Tryz.prog.cellsOf 3) [c0, c1, c2, c3, c4]) = some x0 := hfs 0 _ rfl
     rw [cellsI] at g0
     have h0 : DataW.trod enc Tryz.prog W 0 (fun _ => true) true n 3 [c0] = some x0 := g0
     have g1 : DataW.trod enc Tryz.prog W 0 (fun _ => true) true n 22 (List.take (Tryz.prog.cellsOf 22) [c1, c2, c3, c4]) = some x1 := hfs 1 _ rfl
     rw [cellsSpots] at g1
     have h1 : DataW.trod enc Tryz.prog W 0 (fun _ => true) true n 22 [c1] = some x1 := g1
     have g2 : DataW.trod enc Tryz.prog W 0 (fun _ => true) true n 3 (List.take (Tryz.prog.cellsOf 3) [c2, c3, c4]) = some x2 := hfs 2 _ rfl
     rw [cellsI] at g2
     have h2 : DataW.trod enc Tryz.prog W 0 (fun _ => true) true n 3 [c2] = some x2 := g2
     have g3 : DataW.trod enc Tryz.prog W 0 (fun _ => true) true n 3 (List.take (Tryz.prog.cellsOf 3) [c3, c4]) = some x3 := hfs 3 _ rfl
     rw [cellsI] at g3
     have h3 : DataW.trod enc Tryz.prog W 0 (fun _ => true) true n 3 [c3] = some x3 := g3
     have g4 : DataW.trod enc Tryz.prog W 0 (fun _ => true) true n 23 (List.take (Tryz.prog.cellsOf 23) [c4]) = some x4 := hfs 4 _ rfl
     rw [cellsZs] at g4
     have h4 : DataW.trod enc Tryz.prog W 0 (fun _ => true) true n 23 [c4] = some x4 := g4
     obtain ⟨k0, e0, _, _⟩ := DataW.trod_int Tryz.underlying3 h0
     obtain ⟨k2, e2, _, _⟩ := DataW.trod_int Tryz.underlying3 h2
     obtain ⟨k3, e3, _, _⟩ := DataW.trod_int Tryz.underlying3 h3
     simp only [List.cons.injEq, and_true] at e0 e2 e3
     subst e0 e2 e3
     obtain ⟨ra, rn, rc, raw, rfl, hR⟩ := open_spots1 h1
     obtain ⟨ta, tl, tc, tk, rfl, hK⟩ := open_isT1 h4
     exact ⟨k0, k2, k3, ra, ta, rn, rc, tl, tc, raw, tk, rfl, hR, hK⟩
set_option maxRecDepth 100000 in
theorem open_scene {W : World} {base : Nat} {v : Value} {d : DataW H} {p : List MemPlace} (hv : Value.okWide Tryz.prog W .any base 25 v) (h : DataW.Trod enc Tryz.prog W 0 (fun _ => true) true 25 v d p) :
 ∃ (sn fn tn : Int) (ra ta : Option Addr) (rn rc tl tc : Nat) (raw : List (Int × List Int)) (tk : List Int), v = .agg #[.int .i64 sn, .slice ra rn rc, .int .i64 fn, .int .i64 tn, .slice ta tl tc] ∧ IsSpots W (.slice ra rn rc) raw ∧ IsT W (.slice ta tl tc) tk := by
 unfold Value.okWide at hv
 rw [Tryz.underlying25] at hv
 obtain ⟨cs, rfl, _, _⟩ := hv
 obtain ⟨fuel, hf⟩ := h
 obtain ⟨sn, fn, tn, ra, ta, rn, rc, tl, tc, raw, tk, e, h1, h2⟩ := open_sceneC hf
 refine ⟨sn, fn, tn, ra, ta, rn, rc, tl, tc, raw, tk, ?_, h1, h2⟩
 rw [show (#[.int .i64 sn, .slice ra rn rc, .int .i64 fn, .int .i64 tn, .slice ta tl tc] : Array Value) = [Value.int .i64 sn, .slice ra rn rc, .int .i64 fn, .int .i64 tn, .slice ta tl tc].toArray from rfl, ← e]
 simp [Value.cells]
end
end Go.Proofs.YtdalbalphagmfaaGreatDoor
