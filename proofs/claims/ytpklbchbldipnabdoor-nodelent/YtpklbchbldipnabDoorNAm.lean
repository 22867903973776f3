/- From a walk to a row, for package node: entries opened. -/
import Derived.Test.YtpklbchbldipnabDoorNAk
import Derived.Test.YtpklbchbldipnabDoorNAj
import Derived.Deep.Slices
import Derived.Deep.Strs
namespace Go.Proofs.YtpklbchbldipnabDoor
open Go.ChangeShapes Go.WideShapes Go.ChangeAt Go.RowKit Go.Deep

theorem cellsKey : Tryd.prog.cellsOf 32 = 32 := by kernel_rfl
theorem cellsRef : Tryd.prog.cellsOf 36 = 34 := by kernel_rfl
theorem cellsEn : Tryd.prog.cellsOf 38 = 68 := by kernel_rfl
theorem cellsI : Tryd.prog.cellsOf 3 = 1 := by kernel_rfl
theorem cellsSt : Tryd.prog.cellsOf 9 = 1 := by kernel_rfl
theorem cellsBo : Tryd.prog.cellsOf 4 = 1 := by kernel_rfl
theorem bytesEn : Tryd.prog.bytesOf 38 = 104 := by kernel_rfl
theorem bytes_of : ∀ (cs : List Value), (∀ i, i < cs.length → ∃ k : Int, cs[i]? = some (.int .u8 k) ∧ 0 ≤ k ∧ k ≤ 255) → ∃ hs : List Int, cs = hs.map (Value.int .u8) ∧ ∀ x ∈ hs, 0 ≤ x ∧ x ≤ 255
  | [], _ => ⟨[], rfl, by simp⟩
  | c :: cs, h => by
    obtain ⟨k, e, b⟩ := h 0 (by simp)
    obtain ⟨hs, e2, b2⟩ := bytes_of cs (fun i hi => by simpa using h (i + 1) (by simp; omega))
    simp at e
    refine ⟨k :: hs, by rw [List.map_cons, e, e2], fun x hx => ?_⟩
    rcases List.mem_cons.1 hx with rfl | hx
    · exact b
    · exact b2 x hx
section
variable {H : Type} {enc : TypeId × Value → H}
theorem open_key {W : World} {fuel : Nat} {cs : List Value} {x : DataW H × List MemPlace} (hl : cs.length = 32) (hf : DataW.trod enc Tryd.prog W 0 (fun _ => true) true fuel 32 cs = some x) :
    ∃ hs : List Int, cs = hs.map (Value.int .u8) ∧ hs.length = 32 ∧ ∀ x ∈ hs, 0 ≤ x ∧ x ≤ 255 := by
  obtain ⟨ys, m, rfl, _, hl0, hyl, hys⟩ := DataW.trod_array Tryd.underlying32 hf
  rw [cells8] at hys
  obtain ⟨hs, e0, b0⟩ := bytes_of cs (fun i hi => by
    obtain ⟨y, hy⟩ : ∃ y, ys[i]? = some y := ⟨_, List.getElem?_eq_getElem (by omega)⟩
    have h9 := hys i (by omega)
    rw [hy] at h9
    obtain ⟨k, e3, _, w3⟩ := DataW.trod_int Tryd.underlying5 h9
    refine ⟨k, ?_, bounds_u8 w3⟩
    have h10 : ((cs.drop (i * 1)).take 1)[0]? = some (.int .u8 k) := by rw [e3]; rfl
    rw [List.getElem?_take_of_lt (by omega), List.getElem?_drop] at h10
    simpa using h10)
  refine ⟨hs, e0, ?_, b0⟩
  have h12 := congrArg List.length e0
  rw [List.length_map] at h12
  omega
set_option maxRecDepth 100000 in
theorem open_refC {W : World} {fuel : Nat} {cs : List Value} {x : DataW H × List MemPlace} (hf : DataW.trod enc Tryd.prog W 0 (fun _ => true) true fuel 36 cs = some x) :
    ∃ (hs : List Int) (fi le : Int), cs = hs.map (Value.int .u8) ++ [.int .i64 fi, .int .i64 le] ∧ hs.length = 32 ∧ (∀ x ∈ hs, 0 ≤ x ∧ x ≤ 255) ∧ (-9223372036854775808 ≤ fi ∧ fi ≤ 9223372036854775807) ∧ (-9223372036854775808 ≤ le ∧ le ≤ 9223372036854775807) := by
  obtain ⟨xs, n, rfl, rfl, hl, hxl, hfs⟩ := DataW.trod_struct Tryd.underlying36 hf
  rw [cellsRef] at hl
  match xs, hxl with
  | [x0, x1, x2], _ =>
    have g0 : DataW.trod enc Tryd.prog W 0 (fun _ => true) true n 32 ((cs.drop 0).take (Tryd.prog.cellsOf 32)) = some x0 := hfs 0 _ rfl
    have g1 : DataW.trod enc Tryd.prog W 0 (fun _ => true) true n 3 ((cs.drop 32).take (Tryd.prog.cellsOf 3)) = some x1 := hfs 1 _ rfl
    have g2 : DataW.trod enc Tryd.prog W 0 (fun _ => true) true n 3 ((cs.drop 33).take (Tryd.prog.cellsOf 3)) = some x2 := hfs 2 _ rfl
    rw [cellsKey, List.drop_zero] at g0
    rw [cellsI] at g1 g2
    obtain ⟨fi, e1, _, w1⟩ := DataW.trod_int Tryd.underlying3 g1
    obtain ⟨le, e2, _, w2⟩ := DataW.trod_int Tryd.underlying3 g2
    obtain ⟨hs, e0, l0, b0⟩ := open_key (by rw [List.length_take]; omega) g0
    refine ⟨hs, fi, le, ?_, l0, b0, bounds_i64 w1, bounds_i64 w2⟩
    have e4 : cs = cs.take 32 ++ (cs.drop 32).take 1 ++ (cs.drop 33).take 1 := by
      rw [List.append_assoc]
      have : (cs.drop 32).take 1 ++ (cs.drop 33).take 1 = cs.drop 32 := by
        have h11 : (cs.drop 33).take 1 = (cs.drop 32).drop 1 := by rw [List.drop_drop, List.take_of_length_le (by rw [List.length_drop]; omega)]
        rw [h11, List.take_append_drop]
      rw [this, List.take_append_drop]
    rw [e1, e2, List.append_assoc] at e4
    rw [← e0]
    exact e4
set_option maxRecDepth 100000 in
theorem open_ent {W : World} {fuel : Nat} {cs : List Value} {x : DataW H × List MemPlace} (hf : DataW.trod enc Tryd.prog W 0 (fun _ => true) true fuel 38 cs = some x) (hw : ∀ n ∈ x.1.weights Tryd.prog 38, n ≤ reachBytes) : ∃ e : Ent, cs = enV e ∧ EnOk e := by
  obtain ⟨xs, n, hx1, rfl, hl, hxl, hfs⟩ := DataW.trod_struct Tryd.underlying38 hf
  rw [cellsEn] at hl
  match xs, hxl with
  | [x0, x1, x2, x3], _ =>
    have g0 : DataW.trod enc Tryd.prog W 0 (fun _ => true) true n 9 ((cs.drop 0).take (Tryd.prog.cellsOf 9)) = some x0 := hfs 0 _ rfl
    have g1 : DataW.trod enc Tryd.prog W 0 (fun _ => true) true n 4 ((cs.drop 1).take (Tryd.prog.cellsOf 4)) = some x1 := hfs 1 _ rfl
    have g2 : DataW.trod enc Tryd.prog W 0 (fun _ => true) true n 32 ((cs.drop 2).take (Tryd.prog.cellsOf 32)) = some x2 := hfs 2 _ rfl
    have g3 : DataW.trod enc Tryd.prog W 0 (fun _ => true) true n 36 ((cs.drop 34).take (Tryd.prog.cellsOf 36)) = some x3 := hfs 3 _ rfl
    rw [cellsSt] at g0
    rw [cellsBo] at g1
    rw [cellsKey] at g2
    rw [cellsRef] at g3
    obtain ⟨s, e0, f0, _⟩ := DataW.trod_string Tryd.underlying9 g0
    obtain ⟨b, e1, _⟩ := DataW.trod_bool Tryd.underlying4 g1
    obtain ⟨ky, e2, lk, bk⟩ := open_key (by rw [List.length_take, List.length_drop]; omega) g2
    obtain ⟨hs, fi, le, e3, lh, bh, wf, wl⟩ := open_refC g3
    have hsl : s.size ≤ 140737488360000 := by
      have := hw s.size (by
        show s.size ∈ DataW.weights Tryd.prog 38 (DataW.agg [x0.1, x1.1, x2.1, x3.1])
        rw [f0]
        simp only [DataW.weights, Tryd.underlying38]
        simp only [DataW.weightsEach, List.map_cons, DataW.weights, List.mem_append]
        left
        exact List.mem_singleton.2 (Array.length_toList (xs := s.data)).symm)
      unfold reachBytes at this
      omega
    refine ⟨⟨bsL s, b, ky, hs, fi, le⟩, ?_, ⟨⟨bsL_byt s, ⟨lk, bk⟩, ⟨lh, bh⟩⟩, by show (bsL s).length ≤ _; rw [bsL_len]; exact hsl, wf, wl⟩⟩
    unfold enV
    simp only [mkS_bsL]
    rw [← e2, ← e3]
    rw [List.drop_zero] at e0
    have t1 : cs = cs.take 1 ++ cs.drop 1 := (List.take_append_drop 1 cs).symm
    have t2 : cs.drop 1 = (cs.drop 1).take 1 ++ cs.drop 2 := by rw [← List.drop_drop (i := 1) (j := 1)]; exact (List.take_append_drop 1 _).symm
    have t3 : cs.drop 2 = (cs.drop 2).take 32 ++ cs.drop 34 := by rw [← List.drop_drop (i := 32) (j := 2)]; exact (List.take_append_drop 32 _).symm
    have t4 : (cs.drop 34).take 34 = cs.drop 34 := List.take_of_length_le (by rw [List.length_drop]; omega)
    rw [t4]
    have t5 : cs = [Value.string s] ++ ([Value.bool b] ++ ((cs.drop 2).take 32 ++ cs.drop 34)) := by
      rw [← t3, ← e1, ← t2, ← e0]
      exact t1
    exact t5
theorem weights_sliceE {t e : TypeId} {elems spare : List (DataW H)} (ht : Tryd.prog.underlying t = some (.slice e)) (hw : ∀ n ∈ (DataW.slice elems spare).weights Tryd.prog t, n ≤ reachBytes) :
    ∀ d ∈ elems, ∀ n ∈ d.weights Tryd.prog e, n ≤ reachBytes := by
  simp only [DataW.weights, ht] at hw
  refine fun d hd n hn => hw n ?_
  refine List.mem_cons_of_mem _ (List.mem_append_left _ ?_)
  clear hw
  induction elems with
  | nil => simp at hd
  | cons a r ih =>
    simp only [DataW.weightsAll, List.mem_append]
    rcases List.mem_cons.1 hd with rfl | hd
    · exact Or.inl hn
    · exact Or.inr (ih hd)
theorem weights_of {ts : List TypeId} {ds : List (DataW H)} (hsz : (DataW.weightsEach Tryd.prog ts ds).all (· ≤ reachBytes) = true) {j : Nat} {t : TypeId} {d : DataW H} (ht : ts[j]? = some t) (hd : ds[j]? = some d) :
    ∀ n ∈ d.weights Tryd.prog t, n ≤ reachBytes := fun n hn => by
  simpa using List.all_eq_true.1 hsz n (DataW.weights_mem_each ht hd n hn)
set_option maxRecDepth 100000 in
theorem open_isEn {W : World} {base : Nat} {v : Value} {d : DataW H} {p : List MemPlace} (hv : Value.okWide Tryd.prog W .any base 22 v) (h : DataW.Trod enc Tryd.prog W 0 (fun _ => true) true 22 v d p) (hw : ∀ n ∈ d.weights Tryd.prog 22, n ≤ reachBytes) :
    ∃ l, IsEn W v l := by
  obtain ⟨a, len, cap, rfl⟩ := okWide_slice Tryd.underlying22 hv
  obtain ⟨fuel, hf⟩ := h
  rcases open_slice Tryd.underlying22 hf with ⟨hcs, hx⟩ | ⟨ad, len', cap', m, n, D, Pl, hcs, _, hl, hm, hmm, hx, hcell⟩
  · simp [Value.cells] at hcs
    obtain ⟨rfl, rfl, rfl⟩ := hcs
    exact ⟨[], IsEn.nil W⟩
  · simp [Value.cells] at hcs
    obtain ⟨rfl, rfl, rfl⟩ := hcs
    simp only [if_true] at hmm
    obtain rfl := hmm.symm
    rw [cellsEn] at hcell
    injection hx with hx1 hx2
    rw [hx1] at hw
    have hw2 := weights_sliceE Tryd.underlying22 hw
    haveI : Inhabited Ent := ⟨Ent.nul⟩
    obtain ⟨O, hO⟩ := choose_lt (α := Ent) (n := len) (p := fun i e => W.cells? 0 (ad.add (i * 68)) 68 = some (enV e) ∧ EnOk e) (fun i hi => by
      obtain ⟨cs', h1, h2⟩ := hcell i (by omega)
      obtain ⟨e, rfl, hok⟩ := open_ent h2 (hw2 (D i) (List.mem_map.2 ⟨i, by simpa using hi, rfl⟩))
      exact ⟨e, h1, hok⟩)
    have hlen : ((List.range len).map O).length = len := by simp
    have hget : ∀ j, j < len → ((List.range len).map O).getD j .nul = O j := fun j hj => by simp [List.getD_eq_getElem?_getD, hj]
    refine ⟨(List.range len).map O, ⟨fun e he => ?_, some ad, cap, by rw [hlen], by omega, by simpa [maxLen] using hm, fun h => (by cases h), fun hp => ?_⟩⟩
    · obtain ⟨i, hi, rfl⟩ := List.mem_map.1 he
      exact (hO i (by simpa using hi)).2
    · rw [hlen] at hp ⊢
      obtain ⟨b, off, spot⟩ := ad
      have hln : ∀ j, j < len → (enV (O j)).length = 68 := fun j hj => enV_len (hO j hj).2.ok
      have hspot : spot = none := by
        obtain ⟨_, _, hc⟩ := World.cells?_some (hO 0 hp).1
        have h00 := hc 0 (by omega)
        rw [List.getElem?_eq_getElem (by rw [hln 0 hp]; omega)] at h00
        simpa [Addr.add] using World.cell?_spot h00
      subst hspot
      refine ⟨b, off, rfl, fun j hj k u hu => ?_⟩
      rw [hget j hj] at hu
      obtain ⟨_, _, hc⟩ := World.cells?_some (hO j hj).1
      have hk : k < (enV (O j)).length := (List.getElem?_eq_some_iff.1 hu).1
      have h0 := hc k (by rw [hln j hj] at hk; exact hk)
      rw [Go.WideShapes.add_plain, Go.WideShapes.add_plain] at h0
      rw [h0, hu]
end
end Go.Proofs.YtpklbchbldipnabDoor
