/- What the statements' own fits and may answer. -/
import Derived.Test.YtpeopejnkbmcdaaDoorKM
namespace Go.Proofs.YtpeopejnkbmcdaaDoor
open Go.RowKit Go.Maps

theorem fitB_lt (sc j f l : Int) : fitB sc j f l = (decide (2 + j ≤ f) && (decide (f < sc) && (decide (0 ≤ l) && decide (l ≤ 1048576)))) := by
  unfold fitB
  by_cases h1 : 2 + j ≤ f <;> by_cases h2 : f < sc <;> by_cases h3 : 0 ≤ l <;> by_cases h4 : l ≤ 1048576 <;> simp [h1, h2, h3, h4, show (f ≤ sc - 1) = (f < sc) from propext ⟨fun h => by omega, fun h => by omega⟩]
set_option maxRecDepth 100000 in
set_option maxHeartbeats 2000000 in
theorem fits_calls {w : World} {s : SL} {r : JF} (hr : r.Ok) (h2 : 8 ≤ s.j) (h3 : s.j ≤ 1024) : Calls Tryd.prog 30 #[.agg (slV s).toArray, .agg (jfV r).toArray] w fun e w' => e = .returned (.bool (fitB s.sc s.j r.f r.l)) ∧ Below w.heap.size w w' := by
  have HF : Hid (∀ w1 w2, Arr w1 w.heap.size 32 (slV s) → Below w.heap.size w w1 → w1.heap.size = w.heap.size + 1 → Arr w2 w1.heap.size 30 (jfV r) → Below w1.heap.size w1 w2 → (w2.cell? ⟨w.heap.size, 0, none⟩ = some (.int .i64 s.sc) ∧ w2.cell? ⟨w.heap.size, 1, none⟩ = some (.int .i64 s.j) ∧ w2.cell? ⟨w1.heap.size, 32, none⟩ = some (.int .i64 r.f) ∧ w2.cell? ⟨w1.heap.size, 33, none⟩ = some (.int .i64 r.l)) ∧ Below w.heap.size w w2) := hide (fun w1 w2 hA1 hb1 _ hA2 hb2 => by
    obtain ⟨e0, e1, _⟩ := slV_at s
    obtain ⟨c1, c2⟩ := jfV_f hr.len
    exact ⟨⟨((hA1.below hb2).cell 0).trans e0, ((hA1.below hb2).cell 1).trans e1, (hA2.cell 32).trans c1, (hA2.cell 33).trans c2⟩, below_then hb1 hb2⟩)
  rw [fitB_lt]
  generalize slV s = cs1 at *
  generalize jfV r = cs2 at *
  generalize s.sc = x0 at *
  generalize s.j = x1 at *
  generalize r.f = f at *
  generalize r.l = l at *
  obtain ⟨lo, hlo⟩ : ∃ y, 2 + x1 = y := ⟨_, rfl⟩
  have elo : IntKind.i64.wrap lo = lo := IntWalk.i64_in _ (by omega)
  have HLO := hide hlo
  rw [hlo]
  clear hr h2 h3
  by_cases h0 : lo ≤ f
  · by_cases h1 : f < x0
    · by_cases h2 : 0 ≤ l
      · by_cases h3 : l ≤ 1048576
        · have d0 : decide (lo ≤ f) = true := by simpa using h0
          have d1 : decide (f < x0) = true := by simpa using h1
          have d2 : decide (0 ≤ l) = true := by simpa using h2
          have d3 : decide (l ≤ 1048576) = true := by simpa using h3
          have HR : Hid ((decide (lo ≤ f) && (decide (f < x0) && (decide (0 ≤ l) && decide (l ≤ 1048576)))) = true) := hide (by simp [d0, d1, d2, d3])
          rw [HR.out]
          clear h0 h1 h2 h3
          go_enter Tryd.func30, Tryd.ntmps30
          go_wp2_with (first
            | (refine wpList_boxJ rfl 32 (.tmp 0) rfl rfl ?_; intro w1 hA1 hb1 hs1)
            | (refine wpList_boxJ rfl 30 (.tmp 1) rfl rfl ?_; intro w2 hA2 hb2 hs2
               obtain ⟨⟨c0, c1, c2, c3⟩, hbb⟩ := unhide HF w1 w2 hA1 hb1 hs1 hA2 hb2
               have HBB := hide hbb
               clear hA1 hb1 hs1 hA2 hb2 hs2 hbb)
            | fail)
          go_ret
          exact ⟨rfl, HBB.out⟩
        · have d0 : decide (lo ≤ f) = true := by simpa using h0
          have d1 : decide (f < x0) = true := by simpa using h1
          have d2 : decide (0 ≤ l) = true := by simpa using h2
          have d3 : decide (l ≤ 1048576) = false := by simpa using h3
          have HR : Hid ((decide (lo ≤ f) && (decide (f < x0) && (decide (0 ≤ l) && decide (l ≤ 1048576)))) = false) := hide (by simp [d3])
          rw [HR.out]
          clear h0 h1 h2 h3
          go_enter Tryd.func30, Tryd.ntmps30
          go_wp2_with (first
            | (refine wpList_boxJ rfl 32 (.tmp 0) rfl rfl ?_; intro w1 hA1 hb1 hs1)
            | (refine wpList_boxJ rfl 30 (.tmp 1) rfl rfl ?_; intro w2 hA2 hb2 hs2
               obtain ⟨⟨c0, c1, c2, c3⟩, hbb⟩ := unhide HF w1 w2 hA1 hb1 hs1 hA2 hb2
               have HBB := hide hbb
               clear hA1 hb1 hs1 hA2 hb2 hs2 hbb)
            | fail)
          go_ret
          exact ⟨rfl, HBB.out⟩
      · have d0 : decide (lo ≤ f) = true := by simpa using h0
        have d1 : decide (f < x0) = true := by simpa using h1
        have d2 : decide (0 ≤ l) = false := by simpa using h2
        have HR : Hid ((decide (lo ≤ f) && (decide (f < x0) && (decide (0 ≤ l) && decide (l ≤ 1048576)))) = false) := hide (by simp [d2])
        rw [HR.out]
        clear h0 h1 h2
        go_enter Tryd.func30, Tryd.ntmps30
        go_wp2_with (first
          | (refine wpList_boxJ rfl 32 (.tmp 0) rfl rfl ?_; intro w1 hA1 hb1 hs1)
          | (refine wpList_boxJ rfl 30 (.tmp 1) rfl rfl ?_; intro w2 hA2 hb2 hs2
             obtain ⟨⟨c0, c1, c2, c3⟩, hbb⟩ := unhide HF w1 w2 hA1 hb1 hs1 hA2 hb2
             have HBB := hide hbb
             clear hA1 hb1 hs1 hA2 hb2 hs2 hbb)
          | fail)
        go_ret
        exact ⟨rfl, HBB.out⟩
    · have d0 : decide (lo ≤ f) = true := by simpa using h0
      have d1 : decide (f < x0) = false := by simpa using h1
      have HR : Hid ((decide (lo ≤ f) && (decide (f < x0) && (decide (0 ≤ l) && decide (l ≤ 1048576)))) = false) := hide (by simp [d1])
      rw [HR.out]
      clear h0 h1
      go_enter Tryd.func30, Tryd.ntmps30
      go_wp2_with (first
        | (refine wpList_boxJ rfl 32 (.tmp 0) rfl rfl ?_; intro w1 hA1 hb1 hs1)
        | (refine wpList_boxJ rfl 30 (.tmp 1) rfl rfl ?_; intro w2 hA2 hb2 hs2
           obtain ⟨⟨c0, c1, c2, c3⟩, hbb⟩ := unhide HF w1 w2 hA1 hb1 hs1 hA2 hb2
           have HBB := hide hbb
           clear hA1 hb1 hs1 hA2 hb2 hs2 hbb)
        | fail)
      go_ret
      exact ⟨rfl, HBB.out⟩
  · have d0 : decide (lo ≤ f) = false := by simpa using h0
    have HR : Hid ((decide (lo ≤ f) && (decide (f < x0) && (decide (0 ≤ l) && decide (l ≤ 1048576)))) = false) := hide (by simp [d0])
    rw [HR.out]
    clear h0
    go_enter Tryd.func30, Tryd.ntmps30
    go_wp2_with (first
      | (refine wpList_boxJ rfl 32 (.tmp 0) rfl rfl ?_; intro w1 hA1 hb1 hs1)
      | (refine wpList_boxJ rfl 30 (.tmp 1) rfl rfl ?_; intro w2 hA2 hb2 hs2
         obtain ⟨⟨c0, c1, c2, c3⟩, hbb⟩ := unhide HF w1 w2 hA1 hb1 hs1 hA2 hb2
         have HBB := hide hbb
         clear hA1 hb1 hs1 hA2 hb2 hs2 hbb)
      | fail)
    go_ret
    exact ⟨rfl, HBB.out⟩
theorem slot_ranges {W : World} {g : Nat} {s : SL} (h : s.Ok) (hA : Arr W g 32 (slV s)) : W.rangeAt g 0 (slV s) ∧ W.rangeAt g 37 (jfV s.r) ∧ W.rangeAt g 71 (jfV s.m) := by
  have lk : (s.k.map (Value.int .u8)).length = 32 := by rw [List.length_map, h.len]
  have hr := jfV_len h.r
  refine ⟨hA.rangeJ, fun j v hv => ?_, fun j v hv => ?_⟩
  · have hj := (List.getElem?_eq_some_iff.1 hv).1
    rw [hA.cell]
    unfold slV
    rw [List.getElem?_append_right (by simp; omega), List.getElem?_append_right (by rw [lk]; simp; omega), lk, List.getElem?_append_left (by simp; omega), ← hv]
    congr 1
    simp
    omega
  · rw [hA.cell]
    unfold slV
    rw [List.getElem?_append_right (by simp; omega), List.getElem?_append_right (by rw [lk]; simp; omega), lk, List.getElem?_append_right (by rw [hr]; simp; omega), hr, ← hv]
    congr 1
    simp
    omega
set_option maxRecDepth 100000 in
set_option maxHeartbeats 8000000 in
theorem lmay_calls {w : World} {s : SL} (hs : s.Ok) : Calls Tryd.prog 12 #[.agg (slV s).toArray] w fun e w' => e = .returned (.bool s.may) ∧ Below w.heap.size w w' := by
  have HF : Hid (∀ w1, Arr w1 w.heap.size 32 (slV s) → (w1.cell? ⟨w.heap.size, 0, none⟩ = some (.int .i64 s.sc) ∧ w1.cell? ⟨w.heap.size, 1, none⟩ = some (.int .i64 s.j) ∧ w1.cell? ⟨w.heap.size, 2, none⟩ = some (.int .i64 s.t) ∧ w1.cell? ⟨w.heap.size, 3, none⟩ = some (.int .i64 s.g) ∧ w1.cell? ⟨w.heap.size, 4, none⟩ = some (.int .i64 s.s))) := hide (fun w1 hA1 => by
    obtain ⟨e0, e1, e2, e3, e4⟩ := slV_at s
    exact ⟨(hA1.cell 0).trans e0, (hA1.cell 1).trans e1, (hA1.cell 2).trans e2, (hA1.cell 3).trans e3, (hA1.cell 4).trans e4⟩)
  have HM1 : Hid (s.may = true → 2 ≤ s.sc ∧ s.sc ≤ 65536 ∧ 8 ≤ s.j ∧ s.j ≤ 1024 ∧ 4 + s.j ≤ s.sc ∧ 0 ≤ s.t ∧ s.t ≤ 1099511627776 ∧ 0 ≤ s.g ∧ s.g ≤ 1099511627776 ∧ 0 ≤ s.s ∧ s.s ≤ 1099511627776) := hide (fun h => by
    have hm := (SL.may_iff s).1 h
    exact ⟨hm.sc0, hm.sc1, hm.j0, hm.j1, hm.js, hm.t.1, hm.t.2, hm.g.1, hm.g.2, hm.s.1, hm.s.2⟩)
  have HM2 : Hid (2 ≤ s.sc → s.sc ≤ 65536 → 8 ≤ s.j → s.j ≤ 1024 → 4 + s.j ≤ s.sc → 0 ≤ s.t → s.t ≤ 1099511627776 → 0 ≤ s.g → s.g ≤ 1099511627776 → 0 ≤ s.s → s.s ≤ 1099511627776 → s.may = (fitB s.sc s.j s.r.f s.r.l && fitB s.sc s.j s.m.f s.m.l)) := hide (fun a b c d e f g h i j k => may_all ⟨a, b⟩ ⟨c, by omega⟩ (fun q hq => by
    match q, hq with
    | 0, _ => exact ⟨f, g⟩
    | 1, _ => exact ⟨h, i⟩
    | 2, _ => exact ⟨j, k⟩))
  have HFR : Hid (8 ≤ s.j → s.j ≤ 1024 → ∀ W, Calls Tryd.prog 30 #[.agg (slV s).toArray, .agg (jfV s.r).toArray] W fun e w' => e = .returned (.bool (fitB s.sc s.j s.r.f s.r.l)) ∧ Below W.heap.size W w') := hide (fun a b W => fits_calls hs.r a b)
  have HFM : Hid (8 ≤ s.j → s.j ≤ 1024 → ∀ W, Calls Tryd.prog 30 #[.agg (slV s).toArray, .agg (jfV s.m).toArray] W fun e w' => e = .returned (.bool (fitB s.sc s.j s.m.f s.m.l)) ∧ Below W.heap.size W w') := hide (fun a b W => fits_calls hs.m a b)
  have HRG : Hid (∀ W, Arr W w.heap.size 32 (slV s) → W.rangeAt w.heap.size 0 (slV s) ∧ W.rangeAt w.heap.size 37 (jfV s.r) ∧ W.rangeAt w.heap.size 71 (jfV s.m)) := hide (fun W hA => slot_ranges hs hA)
  have hinf := infoSof hs
  have hinfR := infoJof hs.r
  have hinfM := infoJof hs.m
  generalize s.may = rr at *
  generalize slV s = cs1 at *
  generalize jfV s.r = cr at *
  generalize jfV s.m = cm at *
  generalize fitB s.sc s.j s.r.f s.r.l = p at *
  generalize fitB s.sc s.j s.m.f s.m.l = q at *
  generalize s.sc = x0 at *
  generalize s.j = x1 at *
  generalize s.t = x2 at *
  generalize s.g = x3 at *
  generalize s.s = x4 at *
  clear hs
  by_cases h0 : x0 < 2
  · have HR : Hid (rr = false) := hide (by cases hrr : rr with | false => rfl | true => exact absurd (unhide HM1 hrr) (by omega))
    rw [HR.out]
    have d0 : decide (x0 < 2) = true := by simpa using h0
    clear h0 HM1 HM2 HFR HFM
    go_enter Tryd.func12, Tryd.ntmps12
    go_wp2_with (first
      | (refine wpList_boxJ rfl 32 (.tmp 0) rfl rfl ?_; intro w1 hA1 hb1 hs1
         obtain ⟨c0, c1, c2, c3, c4⟩ := unhide HF w1 hA1
         obtain ⟨hr0, hr1, hr2⟩ := unhide HRG w1 hA1
         have HA1 := hide hA1
         have HB1 := hide hb1
         clear hA1 hb1 hs1)
      | (refine wpList_loadJ rfl 32 (.tmp 1) rfl _ 0 rfl cs1 _ hr0 Tryd.underlying32 rfl hinf ?_)
      | (refine wpList_loadJ rfl 30 (.tmp 58) rfl _ 37 rfl cr _ hr1 Tryd.underlying30 rfl hinfR ?_)
      | fail)
    go_ret
    exact ⟨rfl, HB1.out⟩
  by_cases h1 : 65536 < x0
  · have HR : Hid (rr = false) := hide (by cases hrr : rr with | false => rfl | true => exact absurd (unhide HM1 hrr) (by omega))
    rw [HR.out]
    have d0 : decide (x0 < 2) = false := by simpa using h0
    have d1 : decide (65536 < x0) = true := by simpa using h1
    clear h0 h1 HM1 HM2 HFR HFM
    go_enter Tryd.func12, Tryd.ntmps12
    go_wp2_with (first
      | (refine wpList_boxJ rfl 32 (.tmp 0) rfl rfl ?_; intro w1 hA1 hb1 hs1
         obtain ⟨c0, c1, c2, c3, c4⟩ := unhide HF w1 hA1
         obtain ⟨hr0, hr1, hr2⟩ := unhide HRG w1 hA1
         have HA1 := hide hA1
         have HB1 := hide hb1
         clear hA1 hb1 hs1)
      | (refine wpList_loadJ rfl 32 (.tmp 1) rfl _ 0 rfl cs1 _ hr0 Tryd.underlying32 rfl hinf ?_)
      | (refine wpList_loadJ rfl 30 (.tmp 58) rfl _ 37 rfl cr _ hr1 Tryd.underlying30 rfl hinfR ?_)
      | fail)
    go_ret
    exact ⟨rfl, HB1.out⟩
  by_cases h2 : x1 < 8
  · have HR : Hid (rr = false) := hide (by cases hrr : rr with | false => rfl | true => exact absurd (unhide HM1 hrr) (by omega))
    rw [HR.out]
    have d0 : decide (x0 < 2) = false := by simpa using h0
    have d1 : decide (65536 < x0) = false := by simpa using h1
    have d2 : decide (x1 < 8) = true := by simpa using h2
    clear h0 h1 h2 HM1 HM2 HFR HFM
    go_enter Tryd.func12, Tryd.ntmps12
    go_wp2_with (first
      | (refine wpList_boxJ rfl 32 (.tmp 0) rfl rfl ?_; intro w1 hA1 hb1 hs1
         obtain ⟨c0, c1, c2, c3, c4⟩ := unhide HF w1 hA1
         obtain ⟨hr0, hr1, hr2⟩ := unhide HRG w1 hA1
         have HA1 := hide hA1
         have HB1 := hide hb1
         clear hA1 hb1 hs1)
      | (refine wpList_loadJ rfl 32 (.tmp 1) rfl _ 0 rfl cs1 _ hr0 Tryd.underlying32 rfl hinf ?_)
      | (refine wpList_loadJ rfl 30 (.tmp 58) rfl _ 37 rfl cr _ hr1 Tryd.underlying30 rfl hinfR ?_)
      | fail)
    go_ret
    exact ⟨rfl, HB1.out⟩
  by_cases h3 : 1024 < x1
  · have HR : Hid (rr = false) := hide (by cases hrr : rr with | false => rfl | true => exact absurd (unhide HM1 hrr) (by omega))
    rw [HR.out]
    have d0 : decide (x0 < 2) = false := by simpa using h0
    have d1 : decide (65536 < x0) = false := by simpa using h1
    have d2 : decide (x1 < 8) = false := by simpa using h2
    have d3 : decide (1024 < x1) = true := by simpa using h3
    clear h0 h1 h2 h3 HM1 HM2 HFR HFM
    go_enter Tryd.func12, Tryd.ntmps12
    go_wp2_with (first
      | (refine wpList_boxJ rfl 32 (.tmp 0) rfl rfl ?_; intro w1 hA1 hb1 hs1
         obtain ⟨c0, c1, c2, c3, c4⟩ := unhide HF w1 hA1
         obtain ⟨hr0, hr1, hr2⟩ := unhide HRG w1 hA1
         have HA1 := hide hA1
         have HB1 := hide hb1
         clear hA1 hb1 hs1)
      | (refine wpList_loadJ rfl 32 (.tmp 1) rfl _ 0 rfl cs1 _ hr0 Tryd.underlying32 rfl hinf ?_)
      | (refine wpList_loadJ rfl 30 (.tmp 58) rfl _ 37 rfl cr _ hr1 Tryd.underlying30 rfl hinfR ?_)
      | fail)
    go_ret
    exact ⟨rfl, HB1.out⟩
  obtain ⟨y, hy⟩ : ∃ y, 4 + x1 = y := ⟨_, rfl⟩
  have ey : IntKind.i64.wrap y = y := IntWalk.i64_in _ (by omega)
  by_cases h4 : x0 < y
  · have HR : Hid (rr = false) := hide (by cases hrr : rr with | false => rfl | true => exact absurd (unhide HM1 hrr) (by omega))
    rw [HR.out]
    have d0 : decide (x0 < 2) = false := by simpa using h0
    have d1 : decide (65536 < x0) = false := by simpa using h1
    have d2 : decide (x1 < 8) = false := by simpa using h2
    have d3 : decide (1024 < x1) = false := by simpa using h3
    have d4 : decide (x0 < y) = true := by simpa using h4
    have HY := hide hy
    clear h0 h1 h2 h3 h4 HM1 HM2 HFR HFM
    go_enter Tryd.func12, Tryd.ntmps12
    go_wp2_with (first
      | (refine wpList_boxJ rfl 32 (.tmp 0) rfl rfl ?_; intro w1 hA1 hb1 hs1
         obtain ⟨c0, c1, c2, c3, c4⟩ := unhide HF w1 hA1
         obtain ⟨hr0, hr1, hr2⟩ := unhide HRG w1 hA1
         have HA1 := hide hA1
         have HB1 := hide hb1
         clear hA1 hb1 hs1)
      | (refine wpList_loadJ rfl 32 (.tmp 1) rfl _ 0 rfl cs1 _ hr0 Tryd.underlying32 rfl hinf ?_)
      | (refine wpList_loadJ rfl 30 (.tmp 58) rfl _ 37 rfl cr _ hr1 Tryd.underlying30 rfl hinfR ?_)
      | fail)
    go_ret
    exact ⟨rfl, HB1.out⟩
  by_cases h5 : x2 < 0
  · have HR : Hid (rr = false) := hide (by cases hrr : rr with | false => rfl | true => exact absurd (unhide HM1 hrr) (by omega))
    rw [HR.out]
    have d0 : decide (x0 < 2) = false := by simpa using h0
    have d1 : decide (65536 < x0) = false := by simpa using h1
    have d2 : decide (x1 < 8) = false := by simpa using h2
    have d3 : decide (1024 < x1) = false := by simpa using h3
    have d4 : decide (x0 < y) = false := by simpa using h4
    have d5 : decide (x2 < 0) = true := by simpa using h5
    have HY := hide hy
    clear h0 h1 h2 h3 h4 h5 HM1 HM2 HFR HFM
    go_enter Tryd.func12, Tryd.ntmps12
    go_wp2_with (first
      | (refine wpList_boxJ rfl 32 (.tmp 0) rfl rfl ?_; intro w1 hA1 hb1 hs1
         obtain ⟨c0, c1, c2, c3, c4⟩ := unhide HF w1 hA1
         obtain ⟨hr0, hr1, hr2⟩ := unhide HRG w1 hA1
         have HA1 := hide hA1
         have HB1 := hide hb1
         clear hA1 hb1 hs1)
      | (refine wpList_loadJ rfl 32 (.tmp 1) rfl _ 0 rfl cs1 _ hr0 Tryd.underlying32 rfl hinf ?_)
      | (refine wpList_loadJ rfl 30 (.tmp 58) rfl _ 37 rfl cr _ hr1 Tryd.underlying30 rfl hinfR ?_)
      | fail)
    go_ret
    exact ⟨rfl, HB1.out⟩
  by_cases h6 : x3 < 0
  · have HR : Hid (rr = false) := hide (by cases hrr : rr with | false => rfl | true => exact absurd (unhide HM1 hrr) (by omega))
    rw [HR.out]
    have d0 : decide (x0 < 2) = false := by simpa using h0
    have d1 : decide (65536 < x0) = false := by simpa using h1
    have d2 : decide (x1 < 8) = false := by simpa using h2
    have d3 : decide (1024 < x1) = false := by simpa using h3
    have d4 : decide (x0 < y) = false := by simpa using h4
    have d5 : decide (x2 < 0) = false := by simpa using h5
    have d6 : decide (x3 < 0) = true := by simpa using h6
    have HY := hide hy
    clear h0 h1 h2 h3 h4 h5 h6 HM1 HM2 HFR HFM
    go_enter Tryd.func12, Tryd.ntmps12
    go_wp2_with (first
      | (refine wpList_boxJ rfl 32 (.tmp 0) rfl rfl ?_; intro w1 hA1 hb1 hs1
         obtain ⟨c0, c1, c2, c3, c4⟩ := unhide HF w1 hA1
         obtain ⟨hr0, hr1, hr2⟩ := unhide HRG w1 hA1
         have HA1 := hide hA1
         have HB1 := hide hb1
         clear hA1 hb1 hs1)
      | (refine wpList_loadJ rfl 32 (.tmp 1) rfl _ 0 rfl cs1 _ hr0 Tryd.underlying32 rfl hinf ?_)
      | (refine wpList_loadJ rfl 30 (.tmp 58) rfl _ 37 rfl cr _ hr1 Tryd.underlying30 rfl hinfR ?_)
      | fail)
    go_ret
    exact ⟨rfl, HB1.out⟩
  by_cases h7 : x4 < 0
  · have HR : Hid (rr = false) := hide (by cases hrr : rr with | false => rfl | true => exact absurd (unhide HM1 hrr) (by omega))
    rw [HR.out]
    have d0 : decide (x0 < 2) = false := by simpa using h0
    have d1 : decide (65536 < x0) = false := by simpa using h1
    have d2 : decide (x1 < 8) = false := by simpa using h2
    have d3 : decide (1024 < x1) = false := by simpa using h3
    have d4 : decide (x0 < y) = false := by simpa using h4
    have d5 : decide (x2 < 0) = false := by simpa using h5
    have d6 : decide (x3 < 0) = false := by simpa using h6
    have d7 : decide (x4 < 0) = true := by simpa using h7
    have HY := hide hy
    clear h0 h1 h2 h3 h4 h5 h6 h7 HM1 HM2 HFR HFM
    go_enter Tryd.func12, Tryd.ntmps12
    go_wp2_with (first
      | (refine wpList_boxJ rfl 32 (.tmp 0) rfl rfl ?_; intro w1 hA1 hb1 hs1
         obtain ⟨c0, c1, c2, c3, c4⟩ := unhide HF w1 hA1
         obtain ⟨hr0, hr1, hr2⟩ := unhide HRG w1 hA1
         have HA1 := hide hA1
         have HB1 := hide hb1
         clear hA1 hb1 hs1)
      | (refine wpList_loadJ rfl 32 (.tmp 1) rfl _ 0 rfl cs1 _ hr0 Tryd.underlying32 rfl hinf ?_)
      | (refine wpList_loadJ rfl 30 (.tmp 58) rfl _ 37 rfl cr _ hr1 Tryd.underlying30 rfl hinfR ?_)
      | fail)
    go_ret
    exact ⟨rfl, HB1.out⟩
  by_cases h8 : 1099511627776 < x2
  · have HR : Hid (rr = false) := hide (by cases hrr : rr with | false => rfl | true => exact absurd (unhide HM1 hrr) (by omega))
    rw [HR.out]
    have d0 : decide (x0 < 2) = false := by simpa using h0
    have d1 : decide (65536 < x0) = false := by simpa using h1
    have d2 : decide (x1 < 8) = false := by simpa using h2
    have d3 : decide (1024 < x1) = false := by simpa using h3
    have d4 : decide (x0 < y) = false := by simpa using h4
    have d5 : decide (x2 < 0) = false := by simpa using h5
    have d6 : decide (x3 < 0) = false := by simpa using h6
    have d7 : decide (x4 < 0) = false := by simpa using h7
    have d8 : decide (1099511627776 < x2) = true := by simpa using h8
    have HY := hide hy
    clear h0 h1 h2 h3 h4 h5 h6 h7 h8 HM1 HM2 HFR HFM
    go_enter Tryd.func12, Tryd.ntmps12
    go_wp2_with (first
      | (refine wpList_boxJ rfl 32 (.tmp 0) rfl rfl ?_; intro w1 hA1 hb1 hs1
         obtain ⟨c0, c1, c2, c3, c4⟩ := unhide HF w1 hA1
         obtain ⟨hr0, hr1, hr2⟩ := unhide HRG w1 hA1
         have HA1 := hide hA1
         have HB1 := hide hb1
         clear hA1 hb1 hs1)
      | (refine wpList_loadJ rfl 32 (.tmp 1) rfl _ 0 rfl cs1 _ hr0 Tryd.underlying32 rfl hinf ?_)
      | (refine wpList_loadJ rfl 30 (.tmp 58) rfl _ 37 rfl cr _ hr1 Tryd.underlying30 rfl hinfR ?_)
      | fail)
    go_ret
    exact ⟨rfl, HB1.out⟩
  by_cases h9 : 1099511627776 < x3
  · have HR : Hid (rr = false) := hide (by cases hrr : rr with | false => rfl | true => exact absurd (unhide HM1 hrr) (by omega))
    rw [HR.out]
    have d0 : decide (x0 < 2) = false := by simpa using h0
    have d1 : decide (65536 < x0) = false := by simpa using h1
    have d2 : decide (x1 < 8) = false := by simpa using h2
    have d3 : decide (1024 < x1) = false := by simpa using h3
    have d4 : decide (x0 < y) = false := by simpa using h4
    have d5 : decide (x2 < 0) = false := by simpa using h5
    have d6 : decide (x3 < 0) = false := by simpa using h6
    have d7 : decide (x4 < 0) = false := by simpa using h7
    have d8 : decide (1099511627776 < x2) = false := by simpa using h8
    have d9 : decide (1099511627776 < x3) = true := by simpa using h9
    have HY := hide hy
    clear h0 h1 h2 h3 h4 h5 h6 h7 h8 h9 HM1 HM2 HFR HFM
    go_enter Tryd.func12, Tryd.ntmps12
    go_wp2_with (first
      | (refine wpList_boxJ rfl 32 (.tmp 0) rfl rfl ?_; intro w1 hA1 hb1 hs1
         obtain ⟨c0, c1, c2, c3, c4⟩ := unhide HF w1 hA1
         obtain ⟨hr0, hr1, hr2⟩ := unhide HRG w1 hA1
         have HA1 := hide hA1
         have HB1 := hide hb1
         clear hA1 hb1 hs1)
      | (refine wpList_loadJ rfl 32 (.tmp 1) rfl _ 0 rfl cs1 _ hr0 Tryd.underlying32 rfl hinf ?_)
      | (refine wpList_loadJ rfl 30 (.tmp 58) rfl _ 37 rfl cr _ hr1 Tryd.underlying30 rfl hinfR ?_)
      | fail)
    go_ret
    exact ⟨rfl, HB1.out⟩
  by_cases h10 : 1099511627776 < x4
  · have HR : Hid (rr = false) := hide (by cases hrr : rr with | false => rfl | true => exact absurd (unhide HM1 hrr) (by omega))
    rw [HR.out]
    have d0 : decide (x0 < 2) = false := by simpa using h0
    have d1 : decide (65536 < x0) = false := by simpa using h1
    have d2 : decide (x1 < 8) = false := by simpa using h2
    have d3 : decide (1024 < x1) = false := by simpa using h3
    have d4 : decide (x0 < y) = false := by simpa using h4
    have d5 : decide (x2 < 0) = false := by simpa using h5
    have d6 : decide (x3 < 0) = false := by simpa using h6
    have d7 : decide (x4 < 0) = false := by simpa using h7
    have d8 : decide (1099511627776 < x2) = false := by simpa using h8
    have d9 : decide (1099511627776 < x3) = false := by simpa using h9
    have d10 : decide (1099511627776 < x4) = true := by simpa using h10
    have HY := hide hy
    clear h0 h1 h2 h3 h4 h5 h6 h7 h8 h9 h10 HM1 HM2 HFR HFM
    go_enter Tryd.func12, Tryd.ntmps12
    go_wp2_with (first
      | (refine wpList_boxJ rfl 32 (.tmp 0) rfl rfl ?_; intro w1 hA1 hb1 hs1
         obtain ⟨c0, c1, c2, c3, c4⟩ := unhide HF w1 hA1
         obtain ⟨hr0, hr1, hr2⟩ := unhide HRG w1 hA1
         have HA1 := hide hA1
         have HB1 := hide hb1
         clear hA1 hb1 hs1)
      | (refine wpList_loadJ rfl 32 (.tmp 1) rfl _ 0 rfl cs1 _ hr0 Tryd.underlying32 rfl hinf ?_)
      | (refine wpList_loadJ rfl 30 (.tmp 58) rfl _ 37 rfl cr _ hr1 Tryd.underlying30 rfl hinfR ?_)
      | fail)
    go_ret
    exact ⟨rfl, HB1.out⟩
  have HR : Hid (rr = (p && q)) := hide (unhide HM2 (by omega) (by omega) (by omega) (by omega) (by omega) (by omega) (by omega) (by omega) (by omega) (by omega) (by omega))
  have HF1 := hide (unhide HFR (by omega) (by omega))
  have HF2 := hide (unhide HFM (by omega) (by omega))
  rw [HR.out]
  have d0 : decide (x0 < 2) = false := by simpa using h0
  have d1 : decide (65536 < x0) = false := by simpa using h1
  have d2 : decide (x1 < 8) = false := by simpa using h2
  have d3 : decide (1024 < x1) = false := by simpa using h3
  have d4 : decide (x0 < y) = false := by simpa using h4
  have d5 : decide (x2 < 0) = false := by simpa using h5
  have d6 : decide (x3 < 0) = false := by simpa using h6
  have d7 : decide (x4 < 0) = false := by simpa using h7
  have d8 : decide (1099511627776 < x2) = false := by simpa using h8
  have d9 : decide (1099511627776 < x3) = false := by simpa using h9
  have d10 : decide (1099511627776 < x4) = false := by simpa using h10
  have HY := hide hy
  clear h0 h1 h2 h3 h4 h5 h6 h7 h8 h9 h10 HM1 HM2 HFR HFM
  go_enter Tryd.func12, Tryd.ntmps12
  go_wp2_with (first
    | (refine wpList_boxJ rfl 32 (.tmp 0) rfl rfl ?_; intro w1 hA1 hb1 hs1
       obtain ⟨c0, c1, c2, c3, c4⟩ := unhide HF w1 hA1
       obtain ⟨hr0, hr1, hr2⟩ := unhide HRG w1 hA1
       have HA1 := hide hA1
       have HB1 := hide hb1
       clear hA1 hb1 hs1)
    | (refine wpList_loadJ rfl 32 (.tmp 1) rfl _ 0 rfl cs1 _ hr0 Tryd.underlying32 rfl hinf ?_)
    | (refine wpList_loadJ rfl 30 (.tmp 58) rfl _ 37 rfl cr _ hr1 Tryd.underlying30 rfl hinfR ?_)
    | fail)
  refine (unhide HF1 _).mono ?_
  rintro e w2 ⟨rfl, hb2⟩
  obtain ⟨ht0, ht1, ht2⟩ := unhide HRG w2 (HA1.out.below hb2)
  have HB2 := hide (below_then HB1.out hb2)
  clear hb2 HF1 hr0 hr1 hr2 c0 c1 c2 c3 c4
  cases p with
  | false =>
    go_wp2
    go_ret
    exact ⟨rfl, HB2.out⟩
  | true =>
    go_wp2_with (first
      | (refine wpList_loadOnS (by rfl) 32 (.tmp 1) rfl _ 0 rfl cs1 _ ht0 Tryd.underlying32 rfl hinf ?_)
      | (refine wpList_loadOnS (by rfl) 30 (.tmp 63) rfl _ 71 rfl cm _ ht2 Tryd.underlying30 rfl hinfM ?_)
      | fail)
    refine (unhide HF2 _).mono ?_
    rintro e w3 ⟨rfl, hb3⟩
    have HB3 := hide (below_then HB2.out hb3)
    clear hb3
    go_wp2
    go_ret
    exact ⟨rfl, HB3.out⟩
end Go.Proofs.YtpeopejnkbmcdaaDoor
