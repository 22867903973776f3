/- From a walk to a row, for package node: entries opened, with their names' bound; turns opened. -/
import Derived.Test.YtpklbchbldipnabDoorNAm
import Derived.Test.YtpklbchbldipnabDoorNaT
namespace Go.Proofs.YtpklbchbldipnabDoor
open Go.ChangeShapes Go.WideShapes Go.ChangeAt Go.RowKit Go.Deep

section
variable {H : Type} {enc : TypeId × Value → H}
set_option maxRecDepth 100000 in
theorem open_entN {W : World} {fuel : Nat} {cs : List Value} {x : DataW H × List MemPlace} (hf : DataW.trod enc Tryd.prog W 0 (fun _ => true) true fuel 38 cs = some x) (hw : ∀ n ∈ x.1.weights Tryd.prog 38, n ≤ reachBytes) : ∃ e : Ent, cs = enV e ∧ EnOk e ∧ e.nm.length ≤ reachBytes := by
  obtain ⟨xs, n, hx1, rfl, hl, hxl, hfs⟩ := DataW.trod_struct Tryd.underlying38 hf
  rw [cellsEn] at hl
  match xs, hxl with
  | [x0, x1, x2, x3], _ =>
    have g0 : DataW.trod enc Tryd.prog W 0 (fun _ => true) true n 9 ((cs.drop 0).take (Tryd.prog.cellsOf 9)) = some x0 := hfs 0 _ rfl
    have g1 : DataW.trod enc Tryd.prog W 0 (fun _ => true) true n 4 ((cs.drop 1).take (Tryd.prog.cellsOf 4)) = some x1 := hfs 1 _ rfl
    have g2 : DataW.trod enc Tryd.prog W 0 (fun _ => true) true n 32 ((cs.drop 2).take (Tryd.prog.cellsOf 32)) = some x2 := hfs 2 _ rfl
    have g3 : DataW.trod enc Tryd.prog W 0 (fun _ => true) true n 36 ((cs.drop 34).take (Tryd.prog.cellsOf 36)) = some x3 := hfs 3 _ rfl
    rw [cellsSt] at g0
    rw [cellsBo] at g1
    rw [cellsKey] at g2
    rw [cellsRef] at g3
    obtain ⟨s, e0, f0, _⟩ := DataW.trod_string Tryd.underlying9 g0
    obtain ⟨b, e1, _⟩ := DataW.trod_bool Tryd.underlying4 g1
    obtain ⟨ky, e2, lk, bk⟩ := open_key (by rw [List.length_take, List.length_drop]; omega) g2
    obtain ⟨hs, fi, le, e3, lh, bh, wf, wl⟩ := open_refC g3
    have hsr : s.size ≤ reachBytes := hw s.size (by
        show s.size ∈ DataW.weights Tryd.prog 38 (DataW.agg [x0.1, x1.1, x2.1, x3.1])
        rw [f0]
        simp only [DataW.weights, Tryd.underlying38]
        simp only [DataW.weightsEach, List.map_cons, DataW.weights, List.mem_append]
        left
        exact List.mem_singleton.2 (Array.length_toList (xs := s.data)).symm)
    have hsl : s.size ≤ 140737488360000 := by
      have := hsr
      unfold reachBytes at this
      omega
    refine ⟨⟨bsL s, b, ky, hs, fi, le⟩, ?_, ⟨⟨bsL_byt s, ⟨lk, bk⟩, ⟨lh, bh⟩⟩, by show (bsL s).length ≤ _; rw [bsL_len]; exact hsl, wf, wl⟩, by show (bsL s).length ≤ _; rw [bsL_len]; exact hsr⟩
    unfold enV
    simp only [mkS_bsL]
    rw [← e2, ← e3]
    rw [List.drop_zero] at e0
    have t1 : cs = cs.take 1 ++ cs.drop 1 := (List.take_append_drop 1 cs).symm
    have t2 : cs.drop 1 = (cs.drop 1).take 1 ++ cs.drop 2 := by rw [← List.drop_drop (i := 1) (j := 1)]; exact (List.take_append_drop 1 _).symm
    have t3 : cs.drop 2 = (cs.drop 2).take 32 ++ cs.drop 34 := by rw [← List.drop_drop (i := 32) (j := 2)]; exact (List.take_append_drop 32 _).symm
    have t4 : (cs.drop 34).take 34 = cs.drop 34 := List.take_of_length_le (by rw [List.length_drop]; omega)
    rw [t4]
    have t5 : cs = [Value.string s] ++ ([Value.bool b] ++ ((cs.drop 2).take 32 ++ cs.drop 34)) := by
      rw [← t3, ← e1, ← t2, ← e0]
      exact t1
    exact t5
set_option maxRecDepth 100000 in
theorem open_isEnN {W : World} {base : Nat} {v : Value} {d : DataW H} {p : List MemPlace} (hv : Value.okWide Tryd.prog W .any base 22 v) (h : DataW.Trod enc Tryd.prog W 0 (fun _ => true) true 22 v d p) (hw : ∀ n ∈ d.weights Tryd.prog 22, n ≤ reachBytes) :
    ∃ l, IsEn W v l ∧ ∀ e ∈ l, e.nm.length ≤ reachBytes := by
  obtain ⟨a, len, cap, rfl⟩ := okWide_slice Tryd.underlying22 hv
  obtain ⟨fuel, hf⟩ := h
  rcases open_slice Tryd.underlying22 hf with ⟨hcs, hx⟩ | ⟨ad, len', cap', m, n, D, Pl, hcs, _, hl, hm, hmm, hx, hcell⟩
  · simp [Value.cells] at hcs
    obtain ⟨rfl, rfl, rfl⟩ := hcs
    exact ⟨[], IsEn.nil W, by simp⟩
  · simp [Value.cells] at hcs
    obtain ⟨rfl, rfl, rfl⟩ := hcs
    simp only [if_true] at hmm
    obtain rfl := hmm.symm
    rw [cellsEn] at hcell
    injection hx with hx1 hx2
    rw [hx1] at hw
    have hw2 := weights_sliceE Tryd.underlying22 hw
    haveI : Inhabited Ent := ⟨Ent.nul⟩
    obtain ⟨O, hO⟩ := choose_lt (α := Ent) (n := len) (p := fun i e => W.cells? 0 (ad.add (i * 68)) 68 = some (enV e) ∧ EnOk e ∧ e.nm.length ≤ reachBytes) (fun i hi => by
      obtain ⟨cs', h1, h2⟩ := hcell i (by omega)
      obtain ⟨e, rfl, hok⟩ := open_entN h2 (hw2 (D i) (List.mem_map.2 ⟨i, by simpa using hi, rfl⟩))
      exact ⟨e, h1, hok⟩)
    have hlen : ((List.range len).map O).length = len := by simp
    have hget : ∀ j, j < len → ((List.range len).map O).getD j .nul = O j := fun j hj => by simp [List.getD_eq_getElem?_getD, hj]
    refine ⟨(List.range len).map O, ⟨fun e he => ?_, some ad, cap, by rw [hlen], by omega, by simpa [maxLen] using hm, fun h => (by cases h), fun hp => ?_⟩, fun e he => ?_⟩
    · obtain ⟨i, hi, rfl⟩ := List.mem_map.1 he
      exact (hO i (by simpa using hi)).2.1
    · rw [hlen] at hp ⊢
      obtain ⟨b, off, spot⟩ := ad
      have hln : ∀ j, j < len → (enV (O j)).length = 68 := fun j hj => enV_len (hO j hj).2.1.ok
      have hspot : spot = none := by
        obtain ⟨_, _, hc⟩ := World.cells?_some (hO 0 hp).1
        have h00 := hc 0 (by omega)
        rw [List.getElem?_eq_getElem (by rw [hln 0 hp]; omega)] at h00
        simpa [Addr.add] using World.cell?_spot h00
      subst hspot
      refine ⟨b, off, rfl, fun j hj k u hu => ?_⟩
      rw [hget j hj] at hu
      obtain ⟨_, _, hc⟩ := World.cells?_some (hO j hj).1
      have hk : k < (enV (O j)).length := (List.getElem?_eq_some_iff.1 hu).1
      have h0 := hc k (by rw [hln j hj] at hk; exact hk)
      rw [Go.WideShapes.add_plain, Go.WideShapes.add_plain] at h0
      rw [h0, hu]
    · obtain ⟨i, hi, rfl⟩ := List.mem_map.1 he
      exact (hO i (by simpa using hi)).2.2

theorem cellsTn : Tryd.prog.cellsOf 53 = 3 := by kernel_rfl
set_option maxRecDepth 100000 in
theorem open_turn {W : World} {fuel : Nat} {cs : List Value} {x : DataW H × List MemPlace} (hf : DataW.trod enc Tryd.prog W 0 (fun _ => true) true fuel 53 cs = some x) : ∃ t : Int × Int × Int, cs = tnV t ∧ (-9223372036854775808 ≤ t.2.2 ∧ t.2.2 ≤ 9223372036854775807) := by
  obtain ⟨xs, n, rfl, rfl, hl, hxl, hfs⟩ := DataW.trod_struct Tryd.underlying53 hf
  rw [cellsTn] at hl
  match xs, hxl with
  | [x0, x1, x2], _ =>
    have g0 : DataW.trod enc Tryd.prog W 0 (fun _ => true) true n 3 ((cs.drop 0).take (Tryd.prog.cellsOf 3)) = some x0 := hfs 0 _ rfl
    have g1 : DataW.trod enc Tryd.prog W 0 (fun _ => true) true n 3 ((cs.drop 1).take (Tryd.prog.cellsOf 3)) = some x1 := hfs 1 _ rfl
    have g2 : DataW.trod enc Tryd.prog W 0 (fun _ => true) true n 3 ((cs.drop 2).take (Tryd.prog.cellsOf 3)) = some x2 := hfs 2 _ rfl
    rw [cellsI] at g0 g1 g2
    obtain ⟨k0, e0, _, w0⟩ := DataW.trod_int Tryd.underlying3 g0
    obtain ⟨k1, e1, _, w1⟩ := DataW.trod_int Tryd.underlying3 g1
    obtain ⟨k2, e2, _, w2⟩ := DataW.trod_int Tryd.underlying3 g2
    refine ⟨(k0, k1, k2), ?_, bounds_i64 w2⟩
    match cs, hl with
    | [c0, c1, c2], _ =>
      simp at e0 e1 e2
      rw [e0, e1, e2]
      rfl
set_option maxRecDepth 100000 in
theorem open_isTn {W : World} {base : Nat} {v : Value} {d : DataW H} {p : List MemPlace} (hv : Value.okWide Tryd.prog W .any base 39 v) (h : DataW.Trod enc Tryd.prog W 0 (fun _ => true) true 39 v d p) :
    ∃ l, IsTn W v l := by
  obtain ⟨a, len, cap, rfl⟩ := okWide_slice Tryd.underlying39 hv
  obtain ⟨fuel, hf⟩ := h
  rcases open_slice Tryd.underlying39 hf with ⟨hcs, hx⟩ | ⟨ad, len', cap', m, n, D, Pl, hcs, _, hl, hm, hmm, hx, hcell⟩
  · simp [Value.cells] at hcs
    obtain ⟨rfl, rfl, rfl⟩ := hcs
    exact ⟨[], ⟨by simp, none, 0, rfl, Nat.le_refl _, by decide, fun h => absurd h (by simp)⟩⟩
  · simp [Value.cells] at hcs
    obtain ⟨rfl, rfl, rfl⟩ := hcs
    simp only [if_true] at hmm
    obtain rfl := hmm.symm
    rw [cellsTn] at hcell
    obtain ⟨O, hO⟩ := choose_lt (α := Int × Int × Int) (n := len) (p := fun i e => W.cells? 0 (ad.add (i * 3)) 3 = some (tnV e) ∧ (-9223372036854775808 ≤ e.2.2 ∧ e.2.2 ≤ 9223372036854775807)) (fun i hi => by
      obtain ⟨cs', h1, h2⟩ := hcell i (by omega)
      obtain ⟨t, rfl, q⟩ := open_turn h2
      exact ⟨t, h1, q⟩)
    have hlen : ((List.range len).map O).length = len := by simp
    have hget : ∀ j, j < len → ((List.range len).map O).getD j default = O j := fun j hj => by simp [List.getD_eq_getElem?_getD, hj]
    refine ⟨(List.range len).map O, ⟨fun e he => ?_, some ad, cap, by rw [hlen], by omega, by simpa [maxLen] using hm, fun hp => ?_⟩⟩
    · obtain ⟨i, hi, rfl⟩ := List.mem_map.1 he
      exact (hO i (by simpa using hi)).2
    · rw [hlen] at hp ⊢
      obtain ⟨b, off, spot⟩ := ad
      have hspot : spot = none := by
        obtain ⟨_, _, hc⟩ := World.cells?_some (hO 0 hp).1
        have h00 := hc 0 (by omega)
        rw [show (tnV (O 0))[0]? = some _ from rfl] at h00
        simpa [Addr.add] using World.cell?_spot h00
      subst hspot
      refine ⟨b, off, rfl, fun j hj k u hu => ?_⟩
      rw [hget j hj] at hu
      obtain ⟨_, _, hc⟩ := World.cells?_some (hO j hj).1
      have hk : k < (tnV (O j)).length := (List.getElem?_eq_some_iff.1 hu).1
      have h0 := hc k hk
      rw [Go.WideShapes.add_plain, Go.WideShapes.add_plain] at h0
      rw [h0, hu]
end
end Go.Proofs.YtpklbchbldipnabDoor
