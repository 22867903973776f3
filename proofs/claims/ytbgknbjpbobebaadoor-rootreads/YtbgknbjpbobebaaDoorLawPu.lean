/- From a walk to a row: a slice of Puts opened. -/
import Derived.Test.YtbgknbjpbobebaaDoorLawRt
import Derived.Test.YtbgknbjpbobebaaDoorRtBy
namespace Go.Proofs.YtbgknbjpbobebaaDoor
open Go.ChangeShapes Go.WideShapes Go.ChangeAt Go.RowKit Go.Deep

/-- A Put. -/
structure PutE where
  n : Int
  s : SL
  bit : Int
  rv : Value
  raw : List Int
def PutE.nul : PutE := ⟨0, .nul, 0, .slice none 0 0, []⟩
def PutE.v (e : PutE) : List Value := putV e.n e.s e.bit e.rv
/-- A slice of Puts. -/
def IsPu (w : World) (a : Option Addr) (n c : Nat) (P : Nat → PutE) : Prop := n ≤ c ∧ c ≤ 9223372036854775807 ∧ (0 < n → ∃ b o, a = some ⟨b, o, none⟩ ∧ ∀ j, j < n → w.rangeAt b (o + j * 108) (P j).v ∧ (P j).s.Ok ∧ IsB w (P j).rv (P j).raw)
theorem scellsPut : Tryd.prog.cellsOf 48 = 108 := by kernel_rfl
section
variable {H : Type} {enc : TypeId × Value → H}
theorem open_b1S {W : World} {fuel : Nat} {v : Value} {x : DataW H × List MemPlace} (hf : DataW.trod enc Tryd.prog W 0 (fun _ => true) true fuel 28 [v] = some x) :
    ∃ xs, IsB W v xs ∧ (xs = [] ∨ ∃ spare, x.1 = .slice (lits .u8 xs) spare) := by
  rcases open_ints Tryd.underlying28 Tryd.underlying5 cells8 hf with ⟨hcs, hx⟩ | ⟨ad, len, cap, zs, hcs, _, hl, hm, hz, hx, hcell, hwz⟩
  · simp only [List.cons.injEq, and_true] at hcs
    subst hcs
    exact ⟨[], ⟨by simp, none, 0, rfl, by simp, by omega, fun _ => rfl, fun h => by simp at h⟩, Or.inl rfl⟩
  · simp only [List.cons.injEq, and_true] at hcs
    subst hcs
    simp only [if_true] at hz
    have hlen : (zs.take len).length = len := by simp; omega
    refine ⟨zs.take len, ⟨?_, some ad, cap, by rw [hlen], by omega, by simpa [maxLen] using hm, (fun h => by cases h), ?_⟩, Or.inr ⟨lits .u8 (zs.drop len), by rw [hx]⟩⟩
    · refine bytes_mem fun x hxm => ?_
      have := hwz x (List.mem_of_mem_take hxm)
      have := bounds_u8 this
      omega
    · intro hp
      obtain ⟨b, off, rfl, hc⟩ := ints_at hcell (by omega)
      refine ⟨b, off, rfl, fun j hj => ?_⟩
      rw [hc j (by omega), List.getD_eq_getElem?_getD, List.getD_eq_getElem?_getD, List.getElem?_take_of_lt (by omega)]
/-- A slice of slices of bytes. -/
theorem scellsB : Tryd.prog.cellsOf 28 = 1 := by kernel_rfl
set_option maxRecDepth 100000 in
theorem open_putC {W : World} {fuel : Nat} {cs : List Value} {x : DataW H × List MemPlace} (hf : DataW.trod enc Tryd.prog W 0 (fun _ => true) true fuel 48 cs = some x) :
    ∃ e : PutE, cs = e.v ∧ e.s.Ok ∧ IsB W e.rv e.raw := by
  obtain ⟨xs, n, rfl, rfl, hl, hxl, hfs⟩ := DataW.trod_struct Tryd.underlying48 hf
  rw [scellsPut] at hl
  match xs, hxl with
  | [x0, x1, x2, x3], _ =>
    have g0 : DataW.trod enc Tryd.prog W 0 (fun _ => true) true n 3 ((cs.drop 0).take (Tryd.prog.cellsOf 3)) = some x0 := hfs 0 _ rfl
    have g1 : DataW.trod enc Tryd.prog W 0 (fun _ => true) true n 27 ((cs.drop 1).take (Tryd.prog.cellsOf 27)) = some x1 := hfs 1 _ rfl
    have g2 : DataW.trod enc Tryd.prog W 0 (fun _ => true) true n 3 ((cs.drop 106).take (Tryd.prog.cellsOf 3)) = some x2 := hfs 2 _ rfl
    have g3 : DataW.trod enc Tryd.prog W 0 (fun _ => true) true n 28 ((cs.drop 107).take (Tryd.prog.cellsOf 28)) = some x3 := hfs 3 _ rfl
    rw [jcellsI, List.drop_zero] at g0
    rw [jcellsI] at g2
    rw [scellsSlot] at g1
    rw [scellsB] at g3
    obtain ⟨c, hc⟩ : ∃ c, (cs.drop 107).take 1 = [c] := by
      have h1 : ((cs.drop 107).take 1).length = 1 := by rw [List.length_take, List.length_drop]; omega
      exact List.length_eq_one_iff.1 h1
    rw [hc] at g3
    obtain ⟨k0, e0, _, w0⟩ := DataW.trod_int Tryd.underlying3 g0
    obtain ⟨s, e1, o1⟩ := open_slotC g1
    obtain ⟨k2, e2, _, w2⟩ := DataW.trod_int Tryd.underlying3 g2
    obtain ⟨raw, hraw, _⟩ := open_b1S g3
    refine ⟨⟨k0, s, k2, c, raw⟩, ?_, o1, hraw⟩
    have hd : ∀ a b c, c = a + b → (cs.drop a).take b ++ cs.drop c = cs.drop a := fun a b c h => by rw [h, ← List.drop_drop, List.take_append_drop]
    have q0 := hd 0 1 1 rfl
    have q1 := hd 1 105 106 rfl
    have q2 := hd 106 1 107 rfl
    have q3 : (cs.drop 107).take 1 = cs.drop 107 := List.take_of_length_le (by rw [List.length_drop]; omega)
    rw [List.drop_zero] at q0
    rw [e0] at q0
    rw [e1] at q1
    rw [e2] at q2
    rw [hc] at q3
    rw [← q0, ← q1, ← q2, ← q3]
    rfl
theorem putE_len {e : PutE} (h : e.s.Ok) : e.v.length = 108 := by
  unfold PutE.v putV
  rw [List.length_cons, List.length_append, slV_len h]
  rfl
set_option maxRecDepth 100000 in
theorem open_isPu {W : World} {base : Nat} {v : Value} {d : DataW H} {p : List MemPlace} (hv : Value.okWide Tryd.prog W .any base 36 v) (h : DataW.Trod enc Tryd.prog W 0 (fun _ => true) true 36 v d p) :
    ∃ (a : Option Addr) (n c : Nat) (P : Nat → PutE), v = .slice a n c ∧ IsPu W a n c P := by
  obtain ⟨a, len, cap, rfl⟩ := okWide_slice Tryd.underlying36 hv
  obtain ⟨fuel, hf⟩ := h
  rcases open_slice Tryd.underlying36 hf with ⟨hcs, hx⟩ | ⟨ad, len', cap', m, n, D, Pl, hcs, _, hl, hm, hmm, hx, hcell⟩
  · simp [Value.cells] at hcs
    obtain ⟨rfl, rfl, rfl⟩ := hcs
    exact ⟨none, 0, 0, fun _ => .nul, rfl, Nat.le_refl _, by decide, fun h => absurd h (by decide)⟩
  · simp [Value.cells] at hcs
    obtain ⟨rfl, rfl, rfl⟩ := hcs
    simp only [if_true] at hmm
    obtain rfl := hmm.symm
    rw [scellsPut] at hcell
    haveI : Inhabited PutE := ⟨PutE.nul⟩
    obtain ⟨O, hO⟩ := choose_lt (α := PutE) (n := len) (p := fun i e => W.cells? 0 (ad.add (i * 108)) 108 = some e.v ∧ e.s.Ok ∧ IsB W e.rv e.raw) (fun i hi => by
      obtain ⟨cs', h1, h2⟩ := hcell i (by omega)
      obtain ⟨e, rfl, q⟩ := open_putC h2
      exact ⟨e, h1, q⟩)
    refine ⟨some ad, len, cap, O, rfl, by omega, by simpa [maxLen] using hm, fun hp => ?_⟩
    obtain ⟨b, off, spot⟩ := ad
    have hln : ∀ j, j < len → (O j).v.length = 108 := fun j hj => putE_len (hO j hj).2.1
    have hspot : spot = none := by
      obtain ⟨_, _, hc⟩ := World.cells?_some (hO 0 hp).1
      have h00 := hc 0 (by omega)
      rw [List.getElem?_eq_getElem (by rw [hln 0 hp]; omega)] at h00
      simpa [Addr.add] using World.cell?_spot h00
    subst hspot
    refine ⟨b, off, rfl, fun j hj => ⟨fun k u hu => ?_, (hO j hj).2⟩⟩
    obtain ⟨_, _, hc⟩ := World.cells?_some (hO j hj).1
    have hk : k < (O j).v.length := (List.getElem?_eq_some_iff.1 hu).1
    have h0 := hc k (by rw [hln j hj] at hk; exact hk)
    rw [Go.WideShapes.add_plain, Go.WideShapes.add_plain] at h0
    rw [h0, hu]
end
end Go.Proofs.YtbgknbjpbobebaaDoor
