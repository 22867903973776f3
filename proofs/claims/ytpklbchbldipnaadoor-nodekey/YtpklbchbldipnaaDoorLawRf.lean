/- From a walk to a row, for package node: refs opened. -/
import Derived.Test.YtpklbchbldipnaaDoorNAm
import Derived.Test.YtpklbchbldipnaaDoorNAr
namespace Go.Proofs.YtpklbchbldipnaaDoor
open Go.ChangeShapes Go.WideShapes Go.ChangeAt Go.RowKit Go.Deep

section
variable {H : Type} {enc : TypeId × Value → H}
set_option maxRecDepth 100000 in
theorem open_isRf {W : World} {base : Nat} {v : Value} {d : DataW H} {p : List MemPlace} (hv : Value.okWide Tryd.prog W .any base 57 v) (h : DataW.Trod enc Tryd.prog W 0 (fun _ => true) true 57 v d p) :
    ∃ l, IsRf W v l := by
  obtain ⟨a, len, cap, rfl⟩ := okWide_slice Tryd.underlying57 hv
  obtain ⟨fuel, hf⟩ := h
  rcases open_slice Tryd.underlying57 hf with ⟨hcs, hx⟩ | ⟨ad, len', cap', m, n, D, Pl, hcs, _, hl, hm, hmm, hx, hcell⟩
  · simp [Value.cells] at hcs
    obtain ⟨rfl, rfl, rfl⟩ := hcs
    exact ⟨[], ⟨by simp, none, 0, rfl, Nat.le_refl _, by decide, fun h => absurd h (by simp)⟩⟩
  · simp [Value.cells] at hcs
    obtain ⟨rfl, rfl, rfl⟩ := hcs
    simp only [if_true] at hmm
    obtain rfl := hmm.symm
    rw [cellsRef] at hcell
    haveI : Inhabited Rf := ⟨Rf.nul⟩
    obtain ⟨O, hO⟩ := choose_lt (α := Rf) (n := len) (p := fun i e => W.cells? 0 (ad.add (i * 34)) 34 = some (rfV e.hash e.fi e.ln) ∧ RfOk e) (fun i hi => by
      obtain ⟨cs', h1, h2⟩ := hcell i (by omega)
      obtain ⟨hs, fi, le, rfl, q1, q2, q3, q4⟩ := open_refC h2
      exact ⟨⟨hs, fi, le⟩, h1, ⟨q1, q2⟩, q3, q4⟩)
    have hlen : ((List.range len).map O).length = len := by simp
    have hget : ∀ j, j < len → ((List.range len).map O).getD j .nul = O j := fun j hj => by simp [List.getD_eq_getElem?_getD, hj]
    refine ⟨(List.range len).map O, ⟨fun e he => ?_, some ad, cap, by rw [hlen], by omega, by simpa [maxLen] using hm, fun hp => ?_⟩⟩
    · obtain ⟨i, hi, rfl⟩ := List.mem_map.1 he
      exact (hO i (by simpa using hi)).2
    · rw [hlen] at hp ⊢
      obtain ⟨b, off, spot⟩ := ad
      have hln : ∀ j, j < len → (rfV (O j).hash (O j).fi (O j).ln).length = 34 := fun j hj => rfV_len (hO j hj).2.hash.1
      have hspot : spot = none := by
        obtain ⟨_, _, hc⟩ := World.cells?_some (hO 0 hp).1
        have h00 := hc 0 (by omega)
        rw [List.getElem?_eq_getElem (by rw [hln 0 hp]; omega)] at h00
        simpa [Addr.add] using World.cell?_spot h00
      subst hspot
      refine ⟨b, off, rfl, fun j hj k u hu => ?_⟩
      rw [hget j hj] at hu
      obtain ⟨_, _, hc⟩ := World.cells?_some (hO j hj).1
      have hk : k < (rfV (O j).hash (O j).fi (O j).ln).length := (List.getElem?_eq_some_iff.1 hu).1
      have h0 := hc k (by rw [hln j hj] at hk; exact hk)
      rw [Go.WideShapes.add_plain, Go.WideShapes.add_plain] at h0
      rw [h0, hu]
end
end Go.Proofs.YtpklbchbldipnaaDoor
