/- An argument that is a slice of three ints each, opened. -/
import Derived.Test.YthhjlopgpmaokabDoorLawJ
import Derived.Test.YthhjlopgpmaokabDoorJrAg
namespace Go.Proofs.YthhjlopgpmaokabDoor
open Go.ChangeShapes Go.WideShapes Go.ChangeAt Go.RowKit Go.Deep

theorem cells3 : Tryd.prog.cellsOf 71 = 3 := by kernel_rfl
section
variable {H : Type} {enc : TypeId × Value → H}
set_option maxRecDepth 100000 in
theorem open_tri {W : World} {fuel : Nat} {cs : List Value} {x : DataW H × List MemPlace} (hl : cs.length = 3) (hf : DataW.trod enc Tryd.prog W 0 (fun _ => true) true fuel 71 cs = some x) :
    ∃ p : Int × Int × Int, cs = [.int .i64 p.1, .int .i64 p.2.1, .int .i64 p.2.2] ∧ i64I p.2.1 := by
  obtain ⟨xs, n, rfl, rfl, hcl, hxl, hfs⟩ := DataW.trod_array Tryd.underlying71 hf
  rw [jcellsI] at hfs
  match cs, hl with
  | [c0, c1, c2], _ =>
    match xs, hxl with
    | [x0, x1, x2], _ =>
      have h0 : DataW.trod enc Tryd.prog W 0 (fun _ => true) true n 3 [c0] = some x0 := hfs 0 (by decide)
      have h1 : DataW.trod enc Tryd.prog W 0 (fun _ => true) true n 3 [c1] = some x1 := hfs 1 (by decide)
      have h2 : DataW.trod enc Tryd.prog W 0 (fun _ => true) true n 3 [c2] = some x2 := hfs 2 (by decide)
      obtain ⟨p1, e0, _, k0⟩ := DataW.trod_int Tryd.underlying3 h0
      obtain ⟨p2, e1, _, k1⟩ := DataW.trod_int Tryd.underlying3 h1
      obtain ⟨p3, e2, _, k2⟩ := DataW.trod_int Tryd.underlying3 h2
      simp only [List.cons.injEq, and_true] at e0 e1 e2
      subst e0 e1 e2
      exact ⟨(p1, p2, p3), rfl, bounds_i64 k1⟩
set_option maxRecDepth 100000 in
/-- An argument that is a slice of three ints each. -/
theorem open_tris {W : World} {base : Nat} {v : Value} {d : DataW H} {p : List MemPlace} (hv : Value.okWide Tryd.prog W .any base 62 v) (h : DataW.Trod enc Tryd.prog W 0 (fun _ => true) true 62 v d p) :
    ∃ ta tn tc ts, v = .slice ta tn tc ∧ IsTris W (.slice ta tn tc) ts := by
  obtain ⟨a, len, cap, rfl⟩ := okWide_slice Tryd.underlying62 hv
  obtain ⟨fuel, hf⟩ := h
  rcases open_slice Tryd.underlying62 hf with ⟨hcs, hx⟩ | ⟨ad, len', cap', m, n, D, Pl, hcs, _, hl, hm, hmm, hx, hcell⟩
  · simp [Value.cells] at hcs
    obtain ⟨rfl, rfl, rfl⟩ := hcs
    exact ⟨none, 0, 0, [], rfl, ⟨by simp, none, 0, rfl, by simp, by omega, fun h => by simp at h⟩⟩
  · simp [Value.cells] at hcs
    obtain ⟨rfl, rfl, rfl⟩ := hcs
    simp only [if_true] at hmm
    obtain rfl := hmm.symm
    rw [cells3] at hcell
    obtain ⟨O, hO⟩ := choose_lt (α := Int × Int × Int) (n := len) (p := fun i p => (W.cell? ((ad.add (i * 3)).add 0) = some (.int .i64 p.1) ∧ W.cell? ((ad.add (i * 3)).add 1) = some (.int .i64 p.2.1) ∧ W.cell? ((ad.add (i * 3)).add 2) = some (.int .i64 p.2.2)) ∧ i64I p.2.1) (fun i hi => by
      obtain ⟨cs', h1, h2⟩ := hcell i (by omega)
      obtain ⟨_, hcl, hc⟩ := World.cells?_some h1
      obtain ⟨p, rfl, hb⟩ := open_tri hcl h2
      exact ⟨p, ⟨hc 0 (by omega), hc 1 (by omega), hc 2 (by omega)⟩, hb⟩)
    have hlen : ((List.range len).map O).length = len := by simp
    have hget : ∀ j, j < len → ((List.range len).map O).getD j (0, 0, 0) = O j := fun j hj => by simp [List.getD_eq_getElem?_getD, hj]
    refine ⟨some ad, len, cap, (List.range len).map O, rfl, ⟨fun p hp => ?_, some ad, cap, by rw [hlen], by omega, by simpa [maxLen] using hm, fun hp => ?_⟩⟩
    · obtain ⟨i, hi, rfl⟩ := List.mem_map.1 hp
      exact (hO i (by simpa using hi)).2
    · rw [hlen] at hp ⊢
      obtain ⟨b, off, spot⟩ := ad
      have h00 := (hO 0 hp).1.1
      have hspot : spot = none := by simpa [Addr.add] using World.cell?_spot h00
      subst hspot
      refine ⟨b, off, rfl, fun j hj => ?_⟩
      rw [hget j hj]
      have h1 := (hO j hj).1
      rw [Go.WideShapes.add_plain, Go.WideShapes.add_plain, Go.WideShapes.add_plain, Go.WideShapes.add_plain] at h1
      exact h1
end
end Go.Proofs.YthhjlopgpmaokabDoor
