/- An argument that is a slice of calls, opened. -/
import Derived.Test.YtmfpkoegpoboiabDoorDeeps
import Derived.Test.YtmfpkoegpoboiabDoorStrings
namespace Go.Proofs.YtmfpkoegpoboiabDoor
open Go.ChangeShapes Go.WideShapes Go.ChangeAt Go.RowKit Go.Deep

/-- A call's fields, and what they read. -/
structure OpF where
  K : Int
  A : Int
  N : Int
  V : Int
  vb : Value
  vp : Value
  xs : List Int
  xss : List (List Int)
def OpF.nul : OpF := ⟨0, 0, 0, 0, .slice none 0 0, .slice none 0 0, [], []⟩
def OpF.cells (o : OpF) : List Value := [.int .i64 o.K, o.vb, .int .i64 o.A, .int .i64 o.N, .int .u64 o.V, o.vp]
structure OpF.ok (o : OpF) (w : World) : Prop where
  b : IsB w o.vb o.xs
  p : IsBB w o.vp o.xss
  v0 : 0 ≤ o.V
  v1 : o.V ≤ 18446744073709551615
  n1 : o.N ≤ 9223372036854775807
  lb : o.xs.length ≤ 140737488351232
  lp : o.xss.length * 24 ≤ 140737488351232
  lps : ∀ xs ∈ o.xss, xs.length ≤ 140737488351232
theorem OpF.ok.below {o : OpF} {w w' : World} (h : o.ok w) (hb : Below w.heap.size w w') : o.ok w' := ⟨h.b.below hb, h.p.below hb, h.v0, h.v1, h.n1, h.lb, h.lp, h.lps⟩
structure IsOps (w : World) (v : Value) (os : List OpF) : Prop where
  val : ∃ a cap, v = .slice a os.length cap ∧ os.length ≤ cap ∧ cap ≤ 9223372036854775807 ∧
    (0 < os.length → ∃ b off, a = some ⟨b, off, none⟩ ∧ ∀ j, j < os.length → ∀ f, f < 6 → w.cell? ⟨b, off + (j * 6 + f), none⟩ = (os.getD j .nul).cells[f]?)
  each : ∀ j, j < os.length → (os.getD j .nul).ok w
theorem IsOps.below {w w' : World} {v : Value} {os : List OpF} (h : IsOps w v os) (hb : Below w.heap.size w w') : IsOps w' v os := by
  obtain ⟨⟨a, cap, hv, hl, hm, hc⟩, he⟩ := h
  refine ⟨⟨a, cap, hv, hl, hm, fun hp => ?_⟩, fun j hj => (he j hj).below hb⟩
  obtain ⟨b, off, ha, hcell⟩ := hc hp
  refine ⟨b, off, ha, fun j hj f hf => ?_⟩
  have h1 := hcell j hj f hf
  have h2 : ∃ u, (os.getD j .nul).cells[f]? = some u := by
    rcases (show f = 0 ∨ f = 1 ∨ f = 2 ∨ f = 3 ∨ f = 4 ∨ f = 5 by omega) with rfl | rfl | rfl | rfl | rfl | rfl <;> exact ⟨_, rfl⟩
  obtain ⟨u, hu⟩ := h2
  rw [hu] at h1 ⊢
  exact (hb.cell (World.block_lt_of_cell? w _ h1)).trans h1

section
variable {H : Type} {enc : TypeId × Value → H}
theorem cellsOp : Tryd.prog.cellsOf 56 = 6 := by kernel_rfl
theorem cellsI : Tryd.prog.cellsOf 3 = 1 := by kernel_rfl
theorem cellsU : Tryd.prog.cellsOf 22 = 1 := by kernel_rfl
theorem cellsSS : Tryd.prog.cellsOf 37 = 1 := by kernel_rfl

theorem open_op {W : World} {fuel : Nat} {cs : List Value} {x : DataW H × List MemPlace} (hf : DataW.trod enc Tryd.prog W 0 (fun _ => true) true fuel 56 cs = some x) (hw : ∀ n ∈ x.1.weights Tryd.prog 56, n ≤ reachBytes) :
    ∃ o : OpF, cs = o.cells ∧ o.ok W := by
  obtain ⟨xs, n, rfl, rfl, hl, hxl, hfs⟩ := DataW.trod_struct Tryd.underlying56 hf
  rw [cellsOp] at hl
  match cs, hl with
  | [c0, c1, c2, c3, c4, c5], _ =>
    match xs, hxl with
    | [x0, x1, x2, x3, x4, x5], _ =>
      have g0 : DataW.trod enc Tryd.prog W 0 (fun _ => true) true n 3 (List.take (Tryd.prog.cellsOf 3) [c0, c1, c2, c3, c4, c5]) = some x0 := hfs 0 _ rfl
      rw [cellsI] at g0
      have h0 : DataW.trod enc Tryd.prog W 0 (fun _ => true) true n 3 [c0] = some x0 := g0
      have g1 : DataW.trod enc Tryd.prog W 0 (fun _ => true) true n 23 (List.take (Tryd.prog.cellsOf 23) [c1, c2, c3, c4, c5]) = some x1 := hfs 1 _ rfl
      rw [cellsSl] at g1
      have h1 : DataW.trod enc Tryd.prog W 0 (fun _ => true) true n 23 [c1] = some x1 := g1
      have g2 : DataW.trod enc Tryd.prog W 0 (fun _ => true) true n 3 (List.take (Tryd.prog.cellsOf 3) [c2, c3, c4, c5]) = some x2 := hfs 2 _ rfl
      rw [cellsI] at g2
      have h2 : DataW.trod enc Tryd.prog W 0 (fun _ => true) true n 3 [c2] = some x2 := g2
      have g3 : DataW.trod enc Tryd.prog W 0 (fun _ => true) true n 3 (List.take (Tryd.prog.cellsOf 3) [c3, c4, c5]) = some x3 := hfs 3 _ rfl
      rw [cellsI] at g3
      have h3 : DataW.trod enc Tryd.prog W 0 (fun _ => true) true n 3 [c3] = some x3 := g3
      have g4 : DataW.trod enc Tryd.prog W 0 (fun _ => true) true n 22 (List.take (Tryd.prog.cellsOf 22) [c4, c5]) = some x4 := hfs 4 _ rfl
      rw [cellsU] at g4
      have h4 : DataW.trod enc Tryd.prog W 0 (fun _ => true) true n 22 [c4] = some x4 := g4
      have g5 : DataW.trod enc Tryd.prog W 0 (fun _ => true) true n 37 (List.take (Tryd.prog.cellsOf 37) [c5]) = some x5 := hfs 5 _ rfl
      rw [cellsSS] at g5
      have h5 : DataW.trod enc Tryd.prog W 0 (fun _ => true) true n 37 [c5] = some x5 := g5
      obtain ⟨K, e0, _, k0⟩ := DataW.trod_int Tryd.underlying3 h0
      obtain ⟨A, e2, _, k2⟩ := DataW.trod_int Tryd.underlying3 h2
      obtain ⟨N, e3, _, k3⟩ := DataW.trod_int Tryd.underlying3 h3
      obtain ⟨V, e4, _, k4⟩ := DataW.trod_int Tryd.underlying22 h4
      simp only [List.cons.injEq, and_true] at e0 e2 e3 e4
      subst e0 e2 e3 e4
      have hw' : ∀ m ∈ DataW.weightsEach Tryd.prog [3, 23, 3, 3, 22, 37] [x0.1, x1.1, x2.1, x3.1, x4.1, x5.1], m ≤ reachBytes := by
        intro m hm
        refine hw m ?_
        simp only [DataW.weights, Tryd.underlying56]
        exact hm
      obtain ⟨ys, hB, hd⟩ := open_bytes1 h1
      have hlb := bytes1_len hd (fun m hm => hw' m (DataW.weights_mem_each (j := 1) rfl rfl m hm))
      obtain ⟨yss, hP, hlp, hlps⟩ := open_bytess1 h5 (fun m hm => hw' m (DataW.weights_mem_each (j := 5) rfl rfl m hm))
      have b4 := bounds_u64 k4
      have b3 := bounds_i64 k3
      exact ⟨⟨K, A, N, V, c1, c5, ys, yss⟩, rfl, hB, hP, b4.1, b4.2, b3.2, hlb, hlp, hlps⟩

/-- An argument that is a slice of calls. -/
theorem open_ops {W : World} {base : Nat} {v : Value} {d : DataW H} {p : List MemPlace} (hv : Value.okWide Tryd.prog W .any base 50 v) (h : DataW.Trod enc Tryd.prog W 0 (fun _ => true) true 50 v d p)
    (hw : ∀ n ∈ d.weights Tryd.prog 50, n ≤ reachBytes) : ∃ os, IsOps W v os := by
  obtain ⟨a, len, cap, rfl⟩ := okWide_slice Tryd.underlying50 hv
  obtain ⟨fuel, hf⟩ := h
  rcases open_slice Tryd.underlying50 hf with ⟨hcs, hx⟩ | ⟨ad, len', cap', m, n, D, Pl, hcs, _, hl, hm, hmm, hx, hcell⟩
  · simp [Value.cells] at hcs
    obtain ⟨rfl, rfl, rfl⟩ := hcs
    exact ⟨[], ⟨none, 0, rfl, by simp, by omega, fun h => by simp at h⟩, fun j hj => by simp at hj⟩
  · simp [Value.cells] at hcs
    obtain ⟨rfl, rfl, rfl⟩ := hcs
    simp only [if_true] at hmm
    obtain rfl := hmm.symm
    simp only [Prod.mk.injEq] at hx
    obtain ⟨rfl, _⟩ := hx
    have hw2 := weights_slice Tryd.underlying50 hw
    rw [cellsOp] at hcell
    haveI : Inhabited OpF := ⟨OpF.nul⟩
    obtain ⟨O, hO⟩ := choose_lt (α := OpF) (n := len) (p := fun i o => (∀ f, f < 6 → W.cell? ((ad.add (i * 6)).add f) = o.cells[f]?) ∧ o.ok W) (fun i hi => by
      obtain ⟨cs', h1, h2⟩ := hcell i (by omega)
      obtain ⟨o, rfl, ho⟩ := open_op h2 (hw2.2 (D i) (List.mem_map.2 ⟨i, by simpa using hi, rfl⟩))
      obtain ⟨_, _, hc⟩ := World.cells?_some h1
      exact ⟨o, hc, ho⟩)
    have hlen : ((List.range len).map O).length = len := by simp
    have hget : ∀ j, j < len → ((List.range len).map O).getD j .nul = O j := fun j hj => by simp [List.getD_eq_getElem?_getD, hj]
    refine ⟨(List.range len).map O, ⟨some ad, cap, by rw [hlen], by omega, by simpa [maxLen] using hm, fun hp => ?_⟩, fun j hj => ?_⟩
    · rw [hlen] at hp ⊢
      obtain ⟨b, off, spot⟩ := ad
      have h00 := (hO 0 hp).1 0 (by omega)
      have hspot : spot = none := by simpa [Addr.add] using World.cell?_spot (v := .int .i64 (O 0).K) h00
      subst hspot
      refine ⟨b, off, rfl, fun j hj f hf => ?_⟩
      rw [hget j hj, ← (hO j hj).1 f hf, Go.WideShapes.add_plain, Go.WideShapes.add_plain, Nat.add_assoc]
    · rw [hlen] at hj
      rw [hget j hj]
      exact (hO j hj).2
end
end Go.Proofs.YtmfpkoegpoboiabDoor
