/- From a walk to a row: a slice of Turns opened. -/
import Derived.Test.YtpeopejnkbmcdaaDoorLawRt
import Derived.Test.YtpeopejnkbmcdaaDoorInts
namespace Go.Proofs.YtpeopejnkbmcdaaDoor
open Go.ChangeShapes Go.WideShapes Go.ChangeAt Go.RowKit Go.Deep

/-- A Turn. -/
structure TrnE where
  g : Int
  s : Int
  f : Int
  st : Int
  cr : Int
  fv : Value
  fs : List Int
def TrnE.nul : TrnE := ⟨0, 0, 0, 0, 0, .slice none 0 0, []⟩
def TrnE.v (e : TrnE) : List Value := [.int .i64 e.g, .int .i64 e.s, .int .i64 e.f, .int .i64 e.st, .int .i64 e.cr, e.fv]
/-- A slice of Turns. -/
def IsTr (w : World) (a : Option Addr) (n c : Nat) (P : Nat → TrnE) : Prop := n ≤ c ∧ c ≤ 9223372036854775807 ∧ (0 < n → ∃ b o, a = some ⟨b, o, none⟩ ∧ ∀ j, j < n → w.rangeAt b (o + j * 6) (P j).v ∧ IsI w (P j).fv (P j).fs)
theorem tcellsTr : Tryd.prog.cellsOf 36 = 6 := by kernel_rfl
theorem tcellsIs : Tryd.prog.cellsOf 34 = 1 := by kernel_rfl
section
variable {H : Type} {enc : TypeId × Value → H}
theorem open_i1T {W : World} {fuel : Nat} {v : Value} {x : DataW H × List MemPlace} (hf : DataW.trod enc Tryd.prog W 0 (fun _ => true) true fuel 34 [v] = some x) : ∃ cs, IsI W v cs := by
  rcases open_ints Tryd.underlying34 Tryd.underlying3 jcellsI hf with ⟨hcs, hx⟩ | ⟨ad, len, cap, zs, hcs, _, hl, hm, hz, hx, hcell, hwz⟩
  · simp only [List.cons.injEq, and_true] at hcs
    subst hcs
    exact ⟨[], ⟨by simp, none, 0, rfl, by simp, by omega, fun h => by simp at h⟩⟩
  · simp only [List.cons.injEq, and_true] at hcs
    subst hcs
    simp only [if_true] at hz
    have hlen : (zs.take len).length = len := by simp; omega
    refine ⟨zs.take len, ⟨?_, some ad, cap, by rw [hlen], by omega, by simpa [maxLen] using hm, ?_⟩⟩
    · intro x hxm
      have := bounds_i64 (hwz x (List.mem_of_mem_take hxm))
      constructor <;> omega
    · intro hp
      obtain ⟨b, off, rfl, hc⟩ := ints_at hcell (by omega)
      refine ⟨b, off, rfl, fun j hj => ?_⟩
      rw [hc j (by omega), List.getD_eq_getElem?_getD, List.getD_eq_getElem?_getD, List.getElem?_take_of_lt (by omega)]
set_option maxRecDepth 100000 in
theorem open_trnC {W : World} {fuel : Nat} {cs : List Value} {x : DataW H × List MemPlace} (hf : DataW.trod enc Tryd.prog W 0 (fun _ => true) true fuel 36 cs = some x) :
    ∃ e : TrnE, cs = e.v ∧ IsI W e.fv e.fs := by
  obtain ⟨xs, n, rfl, rfl, hl, hxl, hfs⟩ := DataW.trod_struct Tryd.underlying36 hf
  rw [tcellsTr] at hl
  match cs, hl with
  | [c0, c1, c2, c3, c4, c5], _ =>
  match xs, hxl with
  | [x0, x1, x2, x3, x4, x5], _ =>
    have g0 : DataW.trod enc Tryd.prog W 0 (fun _ => true) true n 3 (([c0, c1, c2, c3, c4, c5].drop 0).take (Tryd.prog.cellsOf 3)) = some x0 := hfs 0 _ rfl
    have g1 : DataW.trod enc Tryd.prog W 0 (fun _ => true) true n 3 (([c0, c1, c2, c3, c4, c5].drop 1).take (Tryd.prog.cellsOf 3)) = some x1 := hfs 1 _ rfl
    have g2 : DataW.trod enc Tryd.prog W 0 (fun _ => true) true n 3 (([c0, c1, c2, c3, c4, c5].drop 2).take (Tryd.prog.cellsOf 3)) = some x2 := hfs 2 _ rfl
    have g3 : DataW.trod enc Tryd.prog W 0 (fun _ => true) true n 3 (([c0, c1, c2, c3, c4, c5].drop 3).take (Tryd.prog.cellsOf 3)) = some x3 := hfs 3 _ rfl
    have g4 : DataW.trod enc Tryd.prog W 0 (fun _ => true) true n 3 (([c0, c1, c2, c3, c4, c5].drop 4).take (Tryd.prog.cellsOf 3)) = some x4 := hfs 4 _ rfl
    have g5 : DataW.trod enc Tryd.prog W 0 (fun _ => true) true n 34 (([c0, c1, c2, c3, c4, c5].drop 5).take (Tryd.prog.cellsOf 34)) = some x5 := hfs 5 _ rfl
    rw [jcellsI] at g0 g1 g2 g3 g4
    rw [tcellsIs] at g5
    obtain ⟨k0, e0, _, _⟩ := DataW.trod_int Tryd.underlying3 g0
    obtain ⟨k1, e1, _, _⟩ := DataW.trod_int Tryd.underlying3 g1
    obtain ⟨k2, e2, _, _⟩ := DataW.trod_int Tryd.underlying3 g2
    obtain ⟨k3, e3, _, _⟩ := DataW.trod_int Tryd.underlying3 g3
    obtain ⟨k4, e4, _, _⟩ := DataW.trod_int Tryd.underlying3 g4
    obtain ⟨fs, hfs5⟩ := open_i1T g5
    injection e0 with e0 _
    injection e1 with e1 _
    injection e2 with e2 _
    injection e3 with e3 _
    injection e4 with e4 _
    subst e0 e1 e2 e3 e4
    exact ⟨⟨k0, k1, k2, k3, k4, c5, fs⟩, rfl, hfs5⟩
set_option maxRecDepth 100000 in
theorem open_isTr {W : World} {base : Nat} {v : Value} {d : DataW H} {p : List MemPlace} (hv : Value.okWide Tryd.prog W .any base 22 v) (h : DataW.Trod enc Tryd.prog W 0 (fun _ => true) true 22 v d p) :
    ∃ (a : Option Addr) (n c : Nat) (P : Nat → TrnE), v = .slice a n c ∧ IsTr W a n c P := by
  obtain ⟨a, len, cap, rfl⟩ := okWide_slice Tryd.underlying22 hv
  obtain ⟨fuel, hf⟩ := h
  rcases open_slice Tryd.underlying22 hf with ⟨hcs, hx⟩ | ⟨ad, len', cap', m, n, D, Pl, hcs, _, hl, hm, hmm, hx, hcell⟩
  · simp [Value.cells] at hcs
    obtain ⟨rfl, rfl, rfl⟩ := hcs
    exact ⟨none, 0, 0, fun _ => .nul, rfl, Nat.le_refl _, by decide, fun h => absurd h (by decide)⟩
  · simp [Value.cells] at hcs
    obtain ⟨rfl, rfl, rfl⟩ := hcs
    simp only [if_true] at hmm
    obtain rfl := hmm.symm
    rw [tcellsTr] at hcell
    haveI : Inhabited TrnE := ⟨TrnE.nul⟩
    obtain ⟨O, hO⟩ := choose_lt (α := TrnE) (n := len) (p := fun i e => W.cells? 0 (ad.add (i * 6)) 6 = some e.v ∧ IsI W e.fv e.fs) (fun i hi => by
      obtain ⟨cs', h1, h2⟩ := hcell i (by omega)
      obtain ⟨e, rfl, q⟩ := open_trnC h2
      exact ⟨e, h1, q⟩)
    refine ⟨some ad, len, cap, O, rfl, by omega, by simpa [maxLen] using hm, fun hp => ?_⟩
    obtain ⟨b, off, spot⟩ := ad
    have hln : ∀ j, (O j).v.length = 6 := fun j => rfl
    have hspot : spot = none := by
      obtain ⟨_, _, hc⟩ := World.cells?_some (hO 0 hp).1
      have h00 := hc 0 (by omega)
      rw [List.getElem?_eq_getElem (by rw [hln 0]; omega)] at h00
      simpa [Addr.add] using World.cell?_spot h00
    subst hspot
    refine ⟨b, off, rfl, fun j hj => ⟨fun k u hu => ?_, (hO j hj).2⟩⟩
    obtain ⟨_, _, hc⟩ := World.cells?_some (hO j hj).1
    have hk : k < (O j).v.length := (List.getElem?_eq_some_iff.1 hu).1
    have h0 := hc k (by rw [hln j] at hk; exact hk)
    rw [Go.WideShapes.add_plain, Go.WideShapes.add_plain] at h0
    rw [h0, hu]
end
end Go.Proofs.YtpeopejnkbmcdaaDoor
