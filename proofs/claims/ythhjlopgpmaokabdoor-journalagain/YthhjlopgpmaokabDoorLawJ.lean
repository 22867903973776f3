/- From a walk to a row, for package journal: a record opened. -/
import Derived.Test.YthhjlopgpmaokabDoorLaw
import Derived.Test.YthhjlopgpmaokabDoorKB
import Derived.Deep.Slices
import Derived.Deep.Strs
namespace Go.Proofs.YthhjlopgpmaokabDoor
open Go.ChangeShapes Go.WideShapes Go.ChangeAt Go.RowKit Go.Deep

theorem jcellsKey : Tryd.prog.cellsOf 33 = 32 := by kernel_rfl
theorem jcellsRef : Tryd.prog.cellsOf 73 = 34 := by kernel_rfl
theorem jcellsRec : Tryd.prog.cellsOf 52 = 34 := by kernel_rfl
theorem jcellsRefs : Tryd.prog.cellsOf 34 = 1 := by kernel_rfl
theorem jcellsI : Tryd.prog.cellsOf 3 = 1 := by kernel_rfl
theorem jbytes_of : ∀ (cs : List Value), (∀ i, i < cs.length → ∃ k : Int, cs[i]? = some (.int .u8 k) ∧ 0 ≤ k ∧ k ≤ 255) → ∃ hs : List Int, cs = hs.map (Value.int .u8) ∧ ∀ x ∈ hs, 0 ≤ x ∧ x ≤ 255
  | [], _ => ⟨[], rfl, by simp⟩
  | c :: cs, h => by
    obtain ⟨k, e, b⟩ := h 0 (by simp)
    obtain ⟨hs, e2, b2⟩ := jbytes_of cs (fun i hi => by simpa using h (i + 1) (by simp; omega))
    simp at e
    refine ⟨k :: hs, by rw [List.map_cons, e, e2], fun x hx => ?_⟩
    rcases List.mem_cons.1 hx with rfl | hx
    · exact b
    · exact b2 x hx
section
variable {H : Type} {enc : TypeId × Value → H}
theorem open_keyJ {W : World} {fuel : Nat} {cs : List Value} {x : DataW H × List MemPlace} (hl : cs.length = 32) (hf : DataW.trod enc Tryd.prog W 0 (fun _ => true) true fuel 33 cs = some x) :
    ∃ hs : List Int, cs = hs.map (Value.int .u8) ∧ hs.length = 32 ∧ ∀ x ∈ hs, 0 ≤ x ∧ x ≤ 255 := by
  obtain ⟨ys, m, rfl, _, hl0, hyl, hys⟩ := DataW.trod_array Tryd.underlying33 hf
  rw [cells8] at hys
  obtain ⟨hs, e0, b0⟩ := jbytes_of cs (fun i hi => by
    obtain ⟨y, hy⟩ : ∃ y, ys[i]? = some y := ⟨_, List.getElem?_eq_getElem (by omega)⟩
    have h9 := hys i (by omega)
    rw [hy] at h9
    obtain ⟨k, e3, _, w3⟩ := DataW.trod_int Tryd.underlying5 h9
    refine ⟨k, ?_, bounds_u8 w3⟩
    have h10 : ((cs.drop (i * 1)).take 1)[0]? = some (.int .u8 k) := by rw [e3]; rfl
    rw [List.getElem?_take_of_lt (by omega), List.getElem?_drop] at h10
    simpa using h10)
  refine ⟨hs, e0, ?_, b0⟩
  have h12 := congrArg List.length e0
  rw [List.length_map] at h12
  omega
set_option maxRecDepth 100000 in
theorem open_refJ {W : World} {fuel : Nat} {cs : List Value} {x : DataW H × List MemPlace} (hf : DataW.trod enc Tryd.prog W 0 (fun _ => true) true fuel 73 cs = some x) :
    ∃ e : JF, cs = jfV e ∧ e.Ok := by
  obtain ⟨xs, n, rfl, rfl, hl, hxl, hfs⟩ := DataW.trod_struct Tryd.underlying73 hf
  rw [jcellsRef] at hl
  match xs, hxl with
  | [x0, x1, x2], _ =>
    have g0 : DataW.trod enc Tryd.prog W 0 (fun _ => true) true n 33 ((cs.drop 0).take (Tryd.prog.cellsOf 33)) = some x0 := hfs 0 _ rfl
    have g1 : DataW.trod enc Tryd.prog W 0 (fun _ => true) true n 3 ((cs.drop 32).take (Tryd.prog.cellsOf 3)) = some x1 := hfs 1 _ rfl
    have g2 : DataW.trod enc Tryd.prog W 0 (fun _ => true) true n 3 ((cs.drop 33).take (Tryd.prog.cellsOf 3)) = some x2 := hfs 2 _ rfl
    rw [jcellsKey, List.drop_zero] at g0
    rw [jcellsI] at g1 g2
    obtain ⟨fi, e1, _, w1⟩ := DataW.trod_int Tryd.underlying3 g1
    obtain ⟨le, e2, _, w2⟩ := DataW.trod_int Tryd.underlying3 g2
    obtain ⟨hs, e0, l0, b0⟩ := open_keyJ (by rw [List.length_take]; omega) g0
    refine ⟨⟨hs, fi, le⟩, ?_, ⟨l0, b0, bounds_i64 w1, bounds_i64 w2⟩⟩
    unfold jfV
    rw [← e0]
    have e4 : cs = cs.take 32 ++ (cs.drop 32).take 1 ++ (cs.drop 33).take 1 := by
      rw [List.append_assoc]
      have : (cs.drop 32).take 1 ++ (cs.drop 33).take 1 = cs.drop 32 := by
        have h11 : (cs.drop 33).take 1 = (cs.drop 32).drop 1 := by rw [List.drop_drop, List.take_of_length_le (by rw [List.length_drop]; omega)]
        rw [h11, List.take_append_drop]
      rw [this, List.take_append_drop]
    rw [e1, e2, List.append_assoc] at e4
    exact e4
set_option maxRecDepth 100000 in
theorem open_isJ1 {W : World} {fuel : Nat} {c : Value} {x : DataW H × List MemPlace} (hf : DataW.trod enc Tryd.prog W 0 (fun _ => true) true fuel 34 [c] = some x) :
    ∃ (a : Option Addr) (len cap : Nat) (l : List JF), c = .slice a len cap ∧ IsJ W (.slice a len cap) l := by
  rcases open_slice Tryd.underlying34 hf with ⟨hcs, hx⟩ | ⟨ad, len, cap, m, n, D, Pl, hcs, _, hl, hm, hmm, hx, hcell⟩
  · simp only [List.cons.injEq, and_true] at hcs
    subst hcs
    exact ⟨none, 0, 0, [], rfl, ⟨by simp, none, 0, rfl, Nat.le_refl _, by decide, fun _ => rfl, fun h => absurd h (by simp)⟩⟩
  · simp only [List.cons.injEq, and_true] at hcs
    subst hcs
    simp only [if_true] at hmm
    obtain rfl := hmm.symm
    rw [jcellsRef] at hcell
    haveI : Inhabited JF := ⟨JF.nul⟩
    obtain ⟨O, hO⟩ := choose_lt (α := JF) (n := len) (p := fun i e => W.cells? 0 (ad.add (i * 34)) 34 = some (jfV e) ∧ JF.Ok e) (fun i hi => by
      obtain ⟨cs', h1, h2⟩ := hcell i (by omega)
      obtain ⟨e, rfl, q⟩ := open_refJ h2
      exact ⟨e, h1, q⟩)
    have hlen : ((List.range len).map O).length = len := by simp
    have hget : ∀ j, j < len → ((List.range len).map O).getD j .nul = O j := fun j hj => by simp [List.getD_eq_getElem?_getD, hj]
    refine ⟨some ad, len, cap, (List.range len).map O, rfl, ⟨fun e he => ?_, some ad, cap, by rw [hlen], by omega, by simpa [maxLen] using hm, (fun e => by cases e), fun hp => ?_⟩⟩
    · obtain ⟨i, hi, rfl⟩ := List.mem_map.1 he
      exact (hO i (by simpa using hi)).2
    · rw [hlen] at hp ⊢
      obtain ⟨b, off, spot⟩ := ad
      have hln : ∀ j, j < len → (jfV (O j)).length = 34 := fun j hj => jfV_len (hO j hj).2
      have hspot : spot = none := by
        obtain ⟨_, _, hc⟩ := World.cells?_some (hO 0 hp).1
        have h00 := hc 0 (by omega)
        rw [List.getElem?_eq_getElem (by rw [hln 0 hp]; omega)] at h00
        simpa [Addr.add] using World.cell?_spot h00
      subst hspot
      refine ⟨b, off, rfl, fun j hj k u hu => ?_⟩
      rw [hget j hj] at hu
      obtain ⟨_, _, hc⟩ := World.cells?_some (hO j hj).1
      have hk : k < (jfV (O j)).length := (List.getElem?_eq_some_iff.1 hu).1
      have h0 := hc k (by rw [hln j hj] at hk; exact hk)
      rw [Go.WideShapes.add_plain, Go.WideShapes.add_plain] at h0
      rw [h0, hu]
set_option maxRecDepth 100000 in
theorem open_recC {W : World} {fuel : Nat} {cs : List Value} {x : DataW H × List MemPlace} (hf : DataW.trod enc Tryd.prog W 0 (fun _ => true) true fuel 52 cs = some x) :
    ∃ (r : JR) (a : Option Addr) (len cap : Nat), cs = jrV r (.slice a len cap) ∧ r.Ok ∧ IsJ W (.slice a len cap) r.rs := by
  obtain ⟨xs, n, rfl, rfl, hl, hxl, hfs⟩ := DataW.trod_struct Tryd.underlying52 hf
  rw [jcellsRec] at hl
  match xs, hxl with
  | [x0, x1, x2], _ =>
    have g0 : DataW.trod enc Tryd.prog W 0 (fun _ => true) true n 3 ((cs.drop 0).take (Tryd.prog.cellsOf 3)) = some x0 := hfs 0 _ rfl
    have g1 : DataW.trod enc Tryd.prog W 0 (fun _ => true) true n 33 ((cs.drop 1).take (Tryd.prog.cellsOf 33)) = some x1 := hfs 1 _ rfl
    have g2 : DataW.trod enc Tryd.prog W 0 (fun _ => true) true n 34 ((cs.drop 33).take (Tryd.prog.cellsOf 34)) = some x2 := hfs 2 _ rfl
    rw [jcellsI, List.drop_zero] at g0
    rw [jcellsKey] at g1
    rw [jcellsRefs] at g2
    obtain ⟨c, hc⟩ : ∃ c, (cs.drop 33).take 1 = [c] := by
      have h1 : ((cs.drop 33).take 1).length = 1 := by rw [List.length_take, List.length_drop]; omega
      exact List.length_eq_one_iff.1 h1
    rw [hc] at g2
    obtain ⟨k, e0, _, w0⟩ := DataW.trod_int Tryd.underlying3 g0
    obtain ⟨ky, e1, l1, b1⟩ := open_keyJ (by rw [List.length_take, List.length_drop]; omega) g1
    obtain ⟨a, len, cap, l, rfl, hJ⟩ := open_isJ1 g2
    refine ⟨⟨k, ky, l⟩, a, len, cap, ?_, ⟨l1, b1, bounds_i64 w0, hJ.ok⟩, hJ⟩
    unfold jrV
    have e4 : cs = cs.take 1 ++ ((cs.drop 1).take 32 ++ (cs.drop 33).take 1) := by
      have h11 : (cs.drop 33).take 1 = (cs.drop 1).drop 32 := by rw [List.drop_drop, List.take_of_length_le (by rw [List.length_drop]; omega)]
      rw [h11, List.take_append_drop, List.take_append_drop]
    rw [e0, e1, hc] at e4
    exact e4
set_option maxRecDepth 100000 in
/-- An argument that is a record. -/
theorem open_rec {W : World} {base : Nat} {v : Value} {d : DataW H} {p : List MemPlace} (hv : Value.okWide Tryd.prog W .any base 52 v) (h : DataW.Trod enc Tryd.prog W 0 (fun _ => true) true 52 v d p) :
    ∃ (r : JR) (a : Option Addr) (len cap : Nat), v = .agg (jrV r (.slice a len cap)).toArray ∧ r.Ok ∧ IsJ W (.slice a len cap) r.rs := by
  unfold Value.okWide at hv
  rw [Tryd.underlying52] at hv
  obtain ⟨cs, rfl, _, _⟩ := hv
  obtain ⟨fuel, hf⟩ := h
  obtain ⟨r, a, len, cap, e, h1, h2⟩ := open_recC hf
  refine ⟨r, a, len, cap, ?_, h1, h2⟩
  rw [← e]
  simp [Value.cells]
end
end Go.Proofs.YthhjlopgpmaokabDoor
