/- An argument that is a script of calls, opened. -/
import Derived.Test.YtfgjhlnaaopdeabLawNB
import Derived.Test.YtfgjhlnaaopdeabDkPw
namespace Go.Proofs.Ytfgjhlnaaopdeab
open Go.ChangeShapes Go.WideShapes Go.ChangeAt Go.RowKit Go.Deep

theorem cellsZ : Try.prog.cellsOf 3 = 1 := by kernel_rfl
theorem cellsOpD : Try.prog.cellsOf 67 = 6 := by kernel_rfl
theorem cellsZs : Try.prog.cellsOf 40 = 1 := by kernel_rfl
section
variable {H : Type} {enc : TypeId × Value → H}
theorem weights_slice {t e : TypeId} {elems spare : List (DataW H)} (ht : Try.prog.underlying t = some (.slice e)) (hw : ∀ n ∈ (DataW.slice elems spare).weights Try.prog t, n ≤ reachBytes) :
    (elems.length + spare.length) * Try.prog.bytesOf e ≤ reachBytes ∧ ∀ d ∈ elems, ∀ n ∈ d.weights Try.prog e, n ≤ reachBytes := by
  simp only [DataW.weights, ht] at hw
  refine ⟨hw _ (by simp), fun d hd n hn => hw n ?_⟩
  refine List.mem_cons_of_mem _ (List.mem_append_left _ ?_)
  clear hw
  induction elems with
  | nil => simp at hd
  | cons a r ih =>
    simp only [DataW.weightsAll, List.mem_append]
    rcases List.mem_cons.1 hd with rfl | hd
    · exact Or.inl hn
    · exact Or.inr (ih hd)
theorem weights_of {ts : List TypeId} {ds : List (DataW H)} (hsz : (DataW.weightsEach Try.prog ts ds).all (· ≤ reachBytes) = true) {j : Nat} {t : TypeId} {d : DataW H} (ht : ts[j]? = some t) (hd : ds[j]? = some d) :
    ∀ n ∈ d.weights Try.prog t, n ≤ reachBytes := fun n hn => by
  simpa using List.all_eq_true.1 hsz n (DataW.weights_mem_each ht hd n hn)

theorem bytes1_len {d : DataW H} {xs : List Int} (h : xs = [] ∨ ∃ spare, d = .slice (lits .u8 xs) spare) (hw : ∀ n ∈ d.weights Try.prog 23, n ≤ reachBytes) : xs.length ≤ 140737488351232 := by
  rcases h with rfl | ⟨spare, rfl⟩
  · simp
  · have := (weights_slice Try.underlying23 hw).1
    rw [bytes8] at this
    simp only [lits, List.length_map, reachBytes] at this
    omega

theorem open_isI1 {W : World} {fuel : Nat} {v : Value} {x : DataW H × List MemPlace} (hf : DataW.trod enc Try.prog W 0 (fun _ => true) true fuel 40 [v] = some x) : ∃ cs, IsI W v cs := by
  rcases open_ints Try.underlying40 Try.underlying3 cellsZ hf with ⟨hcs, hx⟩ | ⟨ad, len', cap', zs, hcs, _, hl, hm, hz, hx, hcell, hwz⟩
  · simp only [List.cons.injEq, and_true] at hcs
    subst hcs
    exact ⟨[], ⟨by simp, none, 0, rfl, by simp, by omega, fun h => by simp at h⟩⟩
  · simp only [List.cons.injEq, and_true] at hcs
    subst hcs
    simp only [if_true] at hz
    have hlen : (zs.take len').length = len' := by simp; omega
    refine ⟨zs.take len', ⟨?_, some ad, cap', by rw [hlen], by omega, by simpa [maxLen] using hm, ?_⟩⟩
    · intro x hxm
      have := bounds_i64 (hwz x (List.mem_of_mem_take hxm))
      constructor <;> omega
    · intro hp
      obtain ⟨b, off, rfl, hc⟩ := ints_at hcell (by omega)
      refine ⟨b, off, rfl, fun j hj => ?_⟩
      rw [hc j (by omega), List.getD_eq_getElem?_getD, List.getD_eq_getElem?_getD, List.getElem?_take_of_lt (by omega)]
set_option maxRecDepth 100000 in
theorem open_opD {W : World} {fuel : Nat} {cs : List Value} {x : DataW H × List MemPlace} (hf : DataW.trod enc Try.prog W 0 (fun _ => true) true fuel 67 cs = some x) (hw : ∀ n ∈ x.1.weights Try.prog 67, n ≤ reachBytes) : ∃ o : OpD, cs = o.cells ∧ o.ok W := by
  obtain ⟨xs, n, rfl, rfl, hl, hxl, hfs⟩ := DataW.trod_struct Try.underlying67 hf
  rw [cellsOpD] at hl
  match cs, hl with
  | [c0, c1, c2, c3, c4, c5], _ =>
    match xs, hxl with
    | [x0, x1, x2, x3, x4, x5], _ =>
      have g0 : DataW.trod enc Try.prog W 0 (fun _ => true) true n 3 (List.take (Try.prog.cellsOf 3) [c0, c1, c2, c3, c4, c5]) = some x0 := hfs 0 _ rfl
      rw [cellsZ] at g0
      have h0 : DataW.trod enc Try.prog W 0 (fun _ => true) true n 3 [c0] = some x0 := g0
      have g1 : DataW.trod enc Try.prog W 0 (fun _ => true) true n 3 (List.take (Try.prog.cellsOf 3) [c1, c2, c3, c4, c5]) = some x1 := hfs 1 _ rfl
      rw [cellsZ] at g1
      have h1 : DataW.trod enc Try.prog W 0 (fun _ => true) true n 3 [c1] = some x1 := g1
      have g2 : DataW.trod enc Try.prog W 0 (fun _ => true) true n 3 (List.take (Try.prog.cellsOf 3) [c2, c3, c4, c5]) = some x2 := hfs 2 _ rfl
      rw [cellsZ] at g2
      have h2 : DataW.trod enc Try.prog W 0 (fun _ => true) true n 3 [c2] = some x2 := g2
      have g3 : DataW.trod enc Try.prog W 0 (fun _ => true) true n 23 (List.take (Try.prog.cellsOf 23) [c3, c4, c5]) = some x3 := hfs 3 _ rfl
      rw [cellsSl] at g3
      have h3 : DataW.trod enc Try.prog W 0 (fun _ => true) true n 23 [c3] = some x3 := g3
      have g4 : DataW.trod enc Try.prog W 0 (fun _ => true) true n 3 (List.take (Try.prog.cellsOf 3) [c4, c5]) = some x4 := hfs 4 _ rfl
      rw [cellsZ] at g4
      have h4 : DataW.trod enc Try.prog W 0 (fun _ => true) true n 3 [c4] = some x4 := g4
      have g5 : DataW.trod enc Try.prog W 0 (fun _ => true) true n 40 (List.take (Try.prog.cellsOf 40) [c5]) = some x5 := hfs 5 _ rfl
      rw [cellsZs] at g5
      have h5 : DataW.trod enc Try.prog W 0 (fun _ => true) true n 40 [c5] = some x5 := g5
      obtain ⟨k0, e0, _, _⟩ := DataW.trod_int Try.underlying3 h0
      obtain ⟨k1, e1, _, _⟩ := DataW.trod_int Try.underlying3 h1
      obtain ⟨k2, e2, _, _⟩ := DataW.trod_int Try.underlying3 h2
      obtain ⟨k4, e4, _, _⟩ := DataW.trod_int Try.underlying3 h4
      simp only [List.cons.injEq, and_true] at e0 e1 e2 e4
      subst e0 e1 e2 e4
      have hw' : ∀ m ∈ DataW.weightsEach Try.prog [3, 3, 3, 23, 3, 40] [x0.1, x1.1, x2.1, x3.1, x4.1, x5.1], m ≤ reachBytes := by
        intro m hm
        refine hw m ?_
        simp only [DataW.weights, Try.underlying67]
        exact hm
      obtain ⟨ys, hB, hd⟩ := open_bytes1 h3
      have hlb := bytes1_len hd (fun m hm => hw' m (DataW.weights_mem_each (j := 3) rfl rfl m hm))
      obtain ⟨zs, hI⟩ := open_isI1 h5
      exact ⟨⟨k0, k1, k2, k4, c3, c5, ys, zs⟩, rfl, hB, hI, by show ys.length ≤ 140737488355328; omega⟩
set_option maxRecDepth 100000 in
theorem open_opsD {W : World} {base : Nat} {v : Value} {d : DataW H} {p : List MemPlace} (hv : Value.okWide Try.prog W .any base 61 v) (h : DataW.Trod enc Try.prog W 0 (fun _ => true) true 61 v d p)
    (hw : ∀ n ∈ d.weights Try.prog 61, n ≤ reachBytes) : ∃ os, IsOpsD W v os := by
  obtain ⟨a, len, cap, rfl⟩ := okWide_slice Try.underlying61 hv
  obtain ⟨fuel, hf⟩ := h
  rcases open_slice Try.underlying61 hf with ⟨hcs, hx⟩ | ⟨ad, len', cap', m, n, D, Pl, hcs, _, hl, hm, hmm, hx, hcell⟩
  · simp [Value.cells] at hcs
    obtain ⟨rfl, rfl, rfl⟩ := hcs
    exact ⟨[], ⟨none, 0, rfl, by simp, by omega, fun h => by simp at h⟩, fun j hj => by simp at hj⟩
  · simp [Value.cells] at hcs
    obtain ⟨rfl, rfl, rfl⟩ := hcs
    simp only [if_true] at hmm
    obtain rfl := hmm.symm
    simp only [Prod.mk.injEq] at hx
    obtain ⟨rfl, _⟩ := hx
    have hw2 := weights_slice Try.underlying61 hw
    rw [cellsOpD] at hcell
    haveI : Inhabited OpD := ⟨OpD.nul⟩
    obtain ⟨O, hO⟩ := choose_lt (α := OpD) (n := len) (p := fun i o => (∀ f, f < 6 → W.cell? ((ad.add (i * 6)).add f) = o.cells[f]?) ∧ o.ok W) (fun i hi => by
      obtain ⟨cs', h1, h2⟩ := hcell i (by omega)
      obtain ⟨o, rfl, ho⟩ := open_opD h2 (hw2.2 (D i) (List.mem_map.2 ⟨i, by simpa using hi, rfl⟩))
      obtain ⟨_, _, hc⟩ := World.cells?_some h1
      exact ⟨o, hc, ho⟩)
    have hlen : ((List.range len).map O).length = len := by simp
    have hget : ∀ j, j < len → ((List.range len).map O).getD j .nul = O j := fun j hj => by simp [List.getD_eq_getElem?_getD, hj]
    refine ⟨(List.range len).map O, ⟨some ad, cap, by rw [hlen], by omega, by simpa [maxLen] using hm, fun hp => ?_⟩, fun j hj => ?_⟩
    · rw [hlen] at hp ⊢
      obtain ⟨b, off, spot⟩ := ad
      have h00 := (hO 0 hp).1 0 (by omega)
      have hspot : spot = none := by simpa [Addr.add] using World.cell?_spot (v := .int .i64 (O 0).k) h00
      subst hspot
      refine ⟨b, off, rfl, ?_, fun j hj f u hu => ?_⟩
      · rw [Go.WideShapes.add_plain, Go.WideShapes.add_plain] at h00
        have h01 : W.cell? ⟨b, off + 0 * 6 + 0, none⟩ = some (.int .i64 (O 0).k) := h00
        exact World.block_lt_of_cell? W _ h01
      · rw [hget j hj] at hu
        have hf6 : f < 6 := (List.getElem?_eq_some_iff.1 hu).1
        have h9 := (hO j hj).1 f hf6
        rw [Go.WideShapes.add_plain, Go.WideShapes.add_plain, hu] at h9
        exact h9
    · rw [hlen] at hj
      rw [hget j hj]
      exact (hO j hj).2
end
end Go.Proofs.Ytfgjhlnaaopdeab
