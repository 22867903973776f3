/- The document's number, four, text, kind. -/
import Derived.Test.YtpklbchbldipnabDoorNI
import Derived.Lib.AppendStr
namespace Go.Proofs.YtpklbchbldipnabDoor
open Go.RowKit Go.Maps

theorem i64_div {x d : Int} (h0 : 0 ≤ x) (h1 : x ≤ 9223372036854775807) (hd : 0 < d) : IntKind.i64.wrap (x.tdiv d) = x / d := by
  rw [Int.tdiv_eq_ediv_of_nonneg h0]
  have a := Int.ediv_nonneg h0 (Int.le_of_lt hd)
  have b := Int.ediv_le_self d h0
  exact IntWalk.i64_in _ ⟨by omega, by omega⟩
set_option maxRecDepth 100000 in
set_option maxHeartbeats 4000000 in
theorem rnumber_calls (V : Int) (w : World) (h0 : 0 ≤ V) (h1 : V ≤ 9223372036854775807) :
    Calls Tryd.prog 39 #[.int .i64 V] w fun e w' => ∃ v, e = .returned v ∧ Own8 w' w.heap.size v (uBytes V) ∧ Below w.heap.size w w' := by
  have H1 : Hid (V < 2 * 128 ^ 9) := top9 (by omega)
  have HBY : Hid (Byt (uBytes V)) := uBytes_bytes h0 H1.out
  go_enter Tryd.func39, Tryd.ntmps39
  go_wp2_with fail
  go_loopw [0, 3] (fun v b wr => ∃ (f : Nat) (x : Int) (pre : List Int), v = .int .i64 x ∧ 0 ≤ x ∧ x ≤ 9223372036854775807 ∧ Hid (x < 2 * 128 ^ f) ∧ Hid (uBytes V = pre ++ uB f x) ∧ Hid (pre.length + f = 9) ∧ pre.length ≤ 9 ∧
      Own8 wr w.heap.size b pre ∧ Below w.heap.size w wr)
    (fun v _ _ => (intOf v).toNat)
  case atStart =>
    exact ⟨9, V, [], rfl, h0, h1, H1, rfl, rfl, by simp, Own8.nil _ _, Below.refl _ _⟩
  case round =>
    obtain ⟨f, x, pre, rfl, hx0, hx1, HX, HE, HF, hp9, hown, hnx⟩ := hrel
    have hsz := hnx.size
    by_cases hlt : 128 ≤ x
    · have hdiv := i64_div (d := 128) hx0 hx1 (by decide)
      have hdiv2 : x.tdiv 128 = x / 128 := Int.tdiv_eq_ediv_of_nonneg hx0
      have hmod : x.tmod 128 = x % 128 := Int.tmod_eq_emod_of_nonneg hx0
      go_wp2_with (first
        | (at_builtin; refine wpList_appB rfl (.tmp 6) (.tmp 11) rfl rfl (hown.below (lit_blw _ _)) rfl (isB_one1 wr (x % 128 + 128) (by omega)) (by simp; omega) (Nat.le_trans hsz (lit_blw _ _).size) ?_; intro v3 w3 ho3 hg3))
      have hnx3 : Below w.heap.size w w3 := belowCh (hnx.trans ((lit_blw wr _).mono hsz)) ((hown.below (lit_blw _ _)).ch hg3) (Nat.le_trans hsz (lit_blw _ _).size)
      obtain ⟨g, rfl⟩ := top_pos HX.out hlt
      have HL := HF.out
      refine ⟨⟨g, x / 128, pre ++ [x % 128 + 128], rfl, by omega, by omega, top_step HX.out, by show uBytes V = _; rw [HE.out, uB_more (by omega)]; simp, by show _ = _; simp; omega, by simp; omega, ho3, hnx3⟩, by simp [intOf]; omega⟩
    · have hm : x % 256 = x := by omega
      go_wp2_with (first
        | (at_builtin; refine wpList_appB rfl (.tmp 15) (.tmp 18) rfl rfl (hown.below (lit_blw _ _)) rfl (isB_one1 wr x (by omega)) (by simp; omega) (Nat.le_trans hsz (lit_blw _ _).size) ?_; intro v3 w3 ho3 hg3))
      have hnx3 : Below w.heap.size w w3 := belowCh (hnx.trans ((lit_blw wr _).mono hsz)) ((hown.below (lit_blw _ _)).ch hg3) (Nat.le_trans hsz (lit_blw _ _).size)
      go_ret
      refine ⟨_, rfl, ?_, hnx3⟩
      rw [HE.out, uB_last (by omega)]
      exact ho3
theorem own8_lits (w : World) (xs : List Int) (h : Byt xs) (hl : xs.length ≤ 1000000) {B : Nat} (hB : B ≤ w.heap.size) : Own8 (w.alloc (.cells (xs.map (Value.int .u8)).toArray 5)) B (.slice (some ⟨w.heap.size, 0, none⟩) xs.length xs.length) xs :=
  ⟨⟨by simp, Or.inr ⟨w.heap.size, xs.length, (xs.map (Value.int .u8)).toArray, rfl, hB, heap_alloc_new w _, Nat.le_refl _, by unfold maxLen; omega, by simp, by
    rw [List.take_of_length_le (by simp)]⟩⟩, h⟩
set_option maxRecDepth 100000 in
set_option maxHeartbeats 4000000 in
theorem four_calls (V : Int) (w : World) (h0 : 0 ≤ V) (h1 : V ≤ 4294967295) :
    Calls Tryd.prog 42 #[.int .i64 V] w fun e w' => ∃ v, e = .returned v ∧ Own8 w' w.heap.size v (fB V 4) ∧ Below w.heap.size w w' := by
  have HF : Hid (fB V 4 = [V % 256, V / 256 % 256, V / 65536 % 256, V / 16777216]) := by
    show _ = _
    rw [fB4, show V / 16777216 % 256 = V / 16777216 by omega]
  have d1 : V.tdiv 256 = V / 256 := Int.tdiv_eq_ediv_of_nonneg h0
  have d2 : V.tdiv 65536 = V / 65536 := Int.tdiv_eq_ediv_of_nonneg h0
  have d3 : V.tdiv 16777216 = V / 16777216 := Int.tdiv_eq_ediv_of_nonneg h0
  have HO := hide (own8_lits w (fB V 4) (fB_bytes V 4) (by rw [fB_len]; decide) (Nat.le_refl _))
  rw [HF.out] at HO
  go_enter Tryd.func42, Tryd.ntmps42
  go_wp2
  go_ret
  refine ⟨_, rfl, ?_, lit_blw _ _⟩
  rw [HF.out]
  exact HO.out
theorem strCells_mkS {x : List Int} (h : Byt x) : Lib.strCells (mkS x) = x.map (Value.int .u8) := by
  have h1 : (mkS x).data.toList = x.map fun n => UInt8.ofNat n.toNat := toL_mkS x
  unfold Lib.strCells
  rw [h1, List.map_map]
  refine List.map_congr_left fun n hn => ?_
  have := h n hn
  simp only [Function.comp, UInt8.toNat_ofNat', Value.int.injEq, true_and]
  omega
set_option maxRecDepth 100000 in
set_option maxHeartbeats 4000000 in
theorem text_calls {x : List Int} (hb : Byt x) (hl : x.length ≤ 1000000) (w : World) :
    Calls Tryd.prog 40 #[.string (mkS x)] w fun e w' => ∃ v, e = .returned v ∧ Own8 w' w.heap.size v (bB x) ∧ Below w.heap.size w w' := by
  obtain ⟨i0, hi, hz0, hz1, hz2⟩ := info_parts info8
  have HN := hide (rnumber_calls (x.length : Int) w (by omega) (by omega))
  have HUL := hide (uBytes_le (x.length : Int))
  have hsz : (mkS x).size = x.length := mkS_size x
  have HSC := hide (strCells_mkS hb)
  have HB := hide hb
  generalize hs : mkS x = s at *
  have HSZ := hide hsz
  have hsz2 : ((s.size : Nat) : Int) = (x.length : Int) := by rw [hsz]
  clear hsz hb
  go_enter Tryd.func40, Tryd.ntmps40
  go_wp2_with (first
    | (go_at_call 39; refine (unhide HN).mono ?_; rintro e w2 ⟨v2, rfl, ho2, hb2⟩)
    | (at_builtin; refine Lib.wpList_append_own_string _ rfl (.tmp 5) (.tmp 6) 25 9 rfl w.heap.size 5 i0 Tryd.underlying25 Tryd.underlying9 hi hz0 hz1 hz2 v2 _ _ rfl ho2.1 s rfl (by rw [HSZ.out]; unfold maxLen; have := HUL.out; omega) (by rw [HSZ.out]; have := HUL.out; omega) hb2.size ?_; intro v3 w3 ho3 hg3 hn3))
  go_ret
  refine ⟨_, rfl, ⟨?_, ?_⟩, belowCh hb2 (ho2.ch hg3) hb2.size⟩
  · rw [HSC.out, HSZ.out] at ho3
    unfold bB
    rw [List.length_append, List.map_append]
    exact ho3
  · exact bB_bytes (by omega) HB.out
set_option maxRecDepth 100000 in
set_option maxHeartbeats 4000000 in
theorem kind_calls (x : Ent) (w : World) : Calls Tryd.prog 41 #[.agg (enV x).toArray] w fun e w' => e = .returned (.int .u8 (if x.dir then 1 else 0)) ∧ Below w.heap.size w w' := by
  have m1 := new_cell w (enV x) 1 (.bool x.dir) 38 rfl
  have hb := lit_blw w (.cells (enV x).toArray 38)
  generalize (enV x).toArray = cs at *
  generalize x.dir = d at *
  cases d
  all_goals (
    go_enter Tryd.func41, Tryd.ntmps41
    go_wp2
    go_ret
    exact ⟨rfl, hb⟩)
end Go.Proofs.YtpklbchbldipnabDoor
