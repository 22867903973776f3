/- The document's May. -/
import Derived.Test.YtbgknbjpbobebaaDoorRtH
namespace Go.Proofs.YtbgknbjpbobebaaDoor
open Go.RowKit Go.Maps

set_option maxRecDepth 100000 in
set_option maxHeartbeats 8000000 in
theorem rMay_calls {w : World} {s : SL} (hs : s.Ok) : Calls Tryd.prog 38 #[.agg (slV s).toArray] w fun e w' => e = .returned (.bool s.may) ∧ Below w.heap.size w w' := by
  have HF : Hid (∀ w1, Arr w1 w.heap.size 27 (slV s) → (w1.cell? ⟨w.heap.size, 0, none⟩ = some (.int .i64 s.sc) ∧ w1.cell? ⟨w.heap.size, 1, none⟩ = some (.int .i64 s.j) ∧ w1.cell? ⟨w.heap.size, 2, none⟩ = some (.int .i64 s.t) ∧ w1.cell? ⟨w.heap.size, 3, none⟩ = some (.int .i64 s.g) ∧ w1.cell? ⟨w.heap.size, 4, none⟩ = some (.int .i64 s.s))) := hide (fun w1 hA1 => by
    obtain ⟨e0, e1, e2, e3, e4⟩ := slV_at s
    exact ⟨(hA1.cell 0).trans e0, (hA1.cell 1).trans e1, (hA1.cell 2).trans e2, (hA1.cell 3).trans e3, (hA1.cell 4).trans e4⟩)
  have HM1 : Hid (s.may = true → (2 ≤ s.sc ∧ s.sc ≤ 65536) ∧ (8 ≤ s.j ∧ s.j ≤ 1024) ∧ 4 + s.j ≤ s.sc ∧ (0 ≤ s.t ∧ s.t ≤ 1099511627776) ∧ (0 ≤ s.g ∧ s.g ≤ 1099511627776) ∧ (0 ≤ s.s ∧ s.s ≤ 1099511627776)) := hide (fun h => by
    have hm := (SL.may_iff s).1 h
    exact ⟨⟨hm.sc0, hm.sc1⟩, ⟨hm.j0, hm.j1⟩, hm.js, hm.t, hm.g, hm.s⟩)
  have HM2 : Hid ((2 ≤ s.sc ∧ s.sc ≤ 65536) → (8 ≤ s.j ∧ s.j ≤ 1024) → 4 + s.j ≤ s.sc → (0 ≤ s.t ∧ s.t ≤ 1099511627776) → (0 ≤ s.g ∧ s.g ≤ 1099511627776) → (0 ≤ s.s ∧ s.s ≤ 1099511627776) → s.may = (fitB s.sc s.j s.r.f s.r.l && fitB s.sc s.j s.m.f s.m.l)) := hide (fun a b c d e f => may_all a ⟨b.1, by omega⟩ (fun q hq => by
    match q, hq with
    | 0, _ => exact d
    | 1, _ => exact e
    | 2, _ => exact f))
  have HFR : Hid (2 ≤ s.sc → s.sc ≤ 65536 → 8 ≤ s.j → s.j ≤ 1024 → ∀ W, Calls Tryd.prog 62 #[.agg (slV s).toArray, .agg (jfV s.r).toArray] W fun e w' => e = .returned (.bool (fitB s.sc s.j s.r.f s.r.l)) ∧ Below W.heap.size W w') := hide (fun a b c d W => rrefs_calls18 hs.r a b c d)
  have HFM : Hid (2 ≤ s.sc → s.sc ≤ 65536 → 8 ≤ s.j → s.j ≤ 1024 → ∀ W, Calls Tryd.prog 62 #[.agg (slV s).toArray, .agg (jfV s.m).toArray] W fun e w' => e = .returned (.bool (fitB s.sc s.j s.m.f s.m.l)) ∧ Below W.heap.size W w') := hide (fun a b c d W => rrefs_calls18 hs.m a b c d)
  have HRG : Hid (∀ W, Arr W w.heap.size 27 (slV s) → W.rangeAt w.heap.size 0 (slV s) ∧ W.rangeAt w.heap.size 37 (jfV s.r) ∧ W.rangeAt w.heap.size 71 (jfV s.m)) := hide (fun W hA => slot_ranges hs hA)
  have hinf := infoSof hs
  have hinfR := infoJof hs.r
  have hinfM := infoJof hs.m
  generalize s.may = rr at *
  generalize slV s = cs1 at *
  generalize jfV s.r = cr at *
  generalize jfV s.m = cm at *
  generalize fitB s.sc s.j s.r.f s.r.l = p at *
  generalize fitB s.sc s.j s.m.f s.m.l = q at *
  generalize s.sc = x0 at *
  generalize s.j = x1 at *
  generalize s.t = x2 at *
  generalize s.g = x3 at *
  generalize s.s = x4 at *
  clear hs
  by_cases h0 : 2 ≤ x0 ∧ x0 ≤ 65536
  case neg =>
    have HR : Hid (rr = false) := hide (by cases hrr : rr with | false => rfl | true => exact absurd (unhide HM1 hrr) (by omega))
    rw [HR.out]
    have HW0 : Hid (∀ W, Calls Tryd.prog 61 #[.int .i64 x0, .int .i64 2, .int .i64 65536] W fun e w' => e = .returned (.bool false) ∧ w' = W) := hide (fun W => by have := rwithin_calls W x0 2 65536; rw [decide_eq_false h0] at this; exact this)
    clear h0 HM1 HM2 HFR HFM
    go_enter Tryd.func38, Tryd.ntmps38
    go_wp2_with (first
      | (refine wpList_boxJ rfl 27 (.tmp 0) rfl rfl ?_; intro w1 hA1 hb1 hs1
         obtain ⟨c0, c1, c2, c3, c4⟩ := unhide HF w1 hA1
         obtain ⟨hr0, hr1, hr2⟩ := unhide HRG w1 hA1
         have HA1 := hide hA1
         have HB1 := hide hb1
         clear hA1 hb1 hs1)
      | fail)
    refine (unhide HW0 _).mono ?_
    rintro e wx ⟨rfl, hwx⟩
    obtain rfl := hwx.symm
    clear hwx
    go_wp2
    go_ret
    exact ⟨rfl, HB1.out⟩
  by_cases h1 : 8 ≤ x1 ∧ x1 ≤ 1024
  case neg =>
    have HR : Hid (rr = false) := hide (by cases hrr : rr with | false => rfl | true => exact absurd (unhide HM1 hrr) (by omega))
    rw [HR.out]
    have HW0 : Hid (∀ W, Calls Tryd.prog 61 #[.int .i64 x0, .int .i64 2, .int .i64 65536] W fun e w' => e = .returned (.bool true) ∧ w' = W) := hide (fun W => by have := rwithin_calls W x0 2 65536; rw [decide_eq_true h0] at this; exact this)
    have HW1 : Hid (∀ W, Calls Tryd.prog 61 #[.int .i64 x1, .int .i64 8, .int .i64 1024] W fun e w' => e = .returned (.bool false) ∧ w' = W) := hide (fun W => by have := rwithin_calls W x1 8 1024; rw [decide_eq_false h1] at this; exact this)
    clear h0 h1 HM1 HM2 HFR HFM
    go_enter Tryd.func38, Tryd.ntmps38
    go_wp2_with (first
      | (refine wpList_boxJ rfl 27 (.tmp 0) rfl rfl ?_; intro w1 hA1 hb1 hs1
         obtain ⟨c0, c1, c2, c3, c4⟩ := unhide HF w1 hA1
         obtain ⟨hr0, hr1, hr2⟩ := unhide HRG w1 hA1
         have HA1 := hide hA1
         have HB1 := hide hb1
         clear hA1 hb1 hs1)
      | fail)
    refine (unhide HW0 _).mono ?_
    rintro e wx ⟨rfl, hwx⟩
    obtain rfl := hwx.symm
    clear hwx
    go_wp2_with fail
    refine (unhide HW1 _).mono ?_
    rintro e wx ⟨rfl, hwx⟩
    obtain rfl := hwx.symm
    clear hwx
    go_wp2
    go_ret
    exact ⟨rfl, HB1.out⟩
  obtain ⟨y, hy⟩ : ∃ y, 4 + x1 = y := ⟨_, rfl⟩
  have ey : IntKind.i64.wrap y = y := IntWalk.i64_in _ (by omega)
  by_cases h2 : x0 < y
  · have HR : Hid (rr = false) := hide (by cases hrr : rr with | false => rfl | true => exact absurd (unhide HM1 hrr) (by omega))
    rw [HR.out]
    have HW0 : Hid (∀ W, Calls Tryd.prog 61 #[.int .i64 x0, .int .i64 2, .int .i64 65536] W fun e w' => e = .returned (.bool true) ∧ w' = W) := hide (fun W => by have := rwithin_calls W x0 2 65536; rw [decide_eq_true h0] at this; exact this)
    have HW1 : Hid (∀ W, Calls Tryd.prog 61 #[.int .i64 x1, .int .i64 8, .int .i64 1024] W fun e w' => e = .returned (.bool true) ∧ w' = W) := hide (fun W => by have := rwithin_calls W x1 8 1024; rw [decide_eq_true h1] at this; exact this)
    have d2 : decide (x0 < y) = true := by simpa using h2
    have HY := hide hy
    clear h0 h1 h2 HM1 HM2 HFR HFM
    go_enter Tryd.func38, Tryd.ntmps38
    go_wp2_with (first
      | (refine wpList_boxJ rfl 27 (.tmp 0) rfl rfl ?_; intro w1 hA1 hb1 hs1
         obtain ⟨c0, c1, c2, c3, c4⟩ := unhide HF w1 hA1
         obtain ⟨hr0, hr1, hr2⟩ := unhide HRG w1 hA1
         have HA1 := hide hA1
         have HB1 := hide hb1
         clear hA1 hb1 hs1)
      | fail)
    refine (unhide HW0 _).mono ?_
    rintro e wx ⟨rfl, hwx⟩
    obtain rfl := hwx.symm
    clear hwx
    go_wp2_with fail
    refine (unhide HW1 _).mono ?_
    rintro e wx ⟨rfl, hwx⟩
    obtain rfl := hwx.symm
    clear hwx
    go_wp2
    go_ret
    exact ⟨rfl, HB1.out⟩
  by_cases h3 : 0 ≤ x2 ∧ x2 ≤ 1099511627776
  case neg =>
    have HR : Hid (rr = false) := hide (by cases hrr : rr with | false => rfl | true => exact absurd (unhide HM1 hrr) (by omega))
    rw [HR.out]
    have HW0 : Hid (∀ W, Calls Tryd.prog 61 #[.int .i64 x0, .int .i64 2, .int .i64 65536] W fun e w' => e = .returned (.bool true) ∧ w' = W) := hide (fun W => by have := rwithin_calls W x0 2 65536; rw [decide_eq_true h0] at this; exact this)
    have HW1 : Hid (∀ W, Calls Tryd.prog 61 #[.int .i64 x1, .int .i64 8, .int .i64 1024] W fun e w' => e = .returned (.bool true) ∧ w' = W) := hide (fun W => by have := rwithin_calls W x1 8 1024; rw [decide_eq_true h1] at this; exact this)
    have d2 : decide (x0 < y) = false := by simpa using h2
    have HW3 : Hid (∀ W, Calls Tryd.prog 61 #[.int .i64 x2, .int .i64 0, .int .i64 1099511627776] W fun e w' => e = .returned (.bool false) ∧ w' = W) := hide (fun W => by have := rwithin_calls W x2 0 1099511627776; rw [decide_eq_false h3] at this; exact this)
    have HY := hide hy
    clear h0 h1 h2 h3 HM1 HM2 HFR HFM
    go_enter Tryd.func38, Tryd.ntmps38
    go_wp2_with (first
      | (refine wpList_boxJ rfl 27 (.tmp 0) rfl rfl ?_; intro w1 hA1 hb1 hs1
         obtain ⟨c0, c1, c2, c3, c4⟩ := unhide HF w1 hA1
         obtain ⟨hr0, hr1, hr2⟩ := unhide HRG w1 hA1
         have HA1 := hide hA1
         have HB1 := hide hb1
         clear hA1 hb1 hs1)
      | fail)
    refine (unhide HW0 _).mono ?_
    rintro e wx ⟨rfl, hwx⟩
    obtain rfl := hwx.symm
    clear hwx
    go_wp2_with fail
    refine (unhide HW1 _).mono ?_
    rintro e wx ⟨rfl, hwx⟩
    obtain rfl := hwx.symm
    clear hwx
    go_wp2_with fail
    refine (unhide HW3 _).mono ?_
    rintro e wx ⟨rfl, hwx⟩
    obtain rfl := hwx.symm
    clear hwx
    go_wp2
    go_ret
    exact ⟨rfl, HB1.out⟩
  by_cases h4 : 0 ≤ x3 ∧ x3 ≤ 1099511627776
  case neg =>
    have HR : Hid (rr = false) := hide (by cases hrr : rr with | false => rfl | true => exact absurd (unhide HM1 hrr) (by omega))
    rw [HR.out]
    have HW0 : Hid (∀ W, Calls Tryd.prog 61 #[.int .i64 x0, .int .i64 2, .int .i64 65536] W fun e w' => e = .returned (.bool true) ∧ w' = W) := hide (fun W => by have := rwithin_calls W x0 2 65536; rw [decide_eq_true h0] at this; exact this)
    have HW1 : Hid (∀ W, Calls Tryd.prog 61 #[.int .i64 x1, .int .i64 8, .int .i64 1024] W fun e w' => e = .returned (.bool true) ∧ w' = W) := hide (fun W => by have := rwithin_calls W x1 8 1024; rw [decide_eq_true h1] at this; exact this)
    have d2 : decide (x0 < y) = false := by simpa using h2
    have HW3 : Hid (∀ W, Calls Tryd.prog 61 #[.int .i64 x2, .int .i64 0, .int .i64 1099511627776] W fun e w' => e = .returned (.bool true) ∧ w' = W) := hide (fun W => by have := rwithin_calls W x2 0 1099511627776; rw [decide_eq_true h3] at this; exact this)
    have HW4 : Hid (∀ W, Calls Tryd.prog 61 #[.int .i64 x3, .int .i64 0, .int .i64 1099511627776] W fun e w' => e = .returned (.bool false) ∧ w' = W) := hide (fun W => by have := rwithin_calls W x3 0 1099511627776; rw [decide_eq_false h4] at this; exact this)
    have HY := hide hy
    clear h0 h1 h2 h3 h4 HM1 HM2 HFR HFM
    go_enter Tryd.func38, Tryd.ntmps38
    go_wp2_with (first
      | (refine wpList_boxJ rfl 27 (.tmp 0) rfl rfl ?_; intro w1 hA1 hb1 hs1
         obtain ⟨c0, c1, c2, c3, c4⟩ := unhide HF w1 hA1
         obtain ⟨hr0, hr1, hr2⟩ := unhide HRG w1 hA1
         have HA1 := hide hA1
         have HB1 := hide hb1
         clear hA1 hb1 hs1)
      | fail)
    refine (unhide HW0 _).mono ?_
    rintro e wx ⟨rfl, hwx⟩
    obtain rfl := hwx.symm
    clear hwx
    go_wp2_with fail
    refine (unhide HW1 _).mono ?_
    rintro e wx ⟨rfl, hwx⟩
    obtain rfl := hwx.symm
    clear hwx
    go_wp2_with fail
    refine (unhide HW3 _).mono ?_
    rintro e wx ⟨rfl, hwx⟩
    obtain rfl := hwx.symm
    clear hwx
    go_wp2_with fail
    refine (unhide HW4 _).mono ?_
    rintro e wx ⟨rfl, hwx⟩
    obtain rfl := hwx.symm
    clear hwx
    go_wp2
    go_ret
    exact ⟨rfl, HB1.out⟩
  by_cases h5 : 0 ≤ x4 ∧ x4 ≤ 1099511627776
  case neg =>
    have HR : Hid (rr = false) := hide (by cases hrr : rr with | false => rfl | true => exact absurd (unhide HM1 hrr) (by omega))
    rw [HR.out]
    have HW0 : Hid (∀ W, Calls Tryd.prog 61 #[.int .i64 x0, .int .i64 2, .int .i64 65536] W fun e w' => e = .returned (.bool true) ∧ w' = W) := hide (fun W => by have := rwithin_calls W x0 2 65536; rw [decide_eq_true h0] at this; exact this)
    have HW1 : Hid (∀ W, Calls Tryd.prog 61 #[.int .i64 x1, .int .i64 8, .int .i64 1024] W fun e w' => e = .returned (.bool true) ∧ w' = W) := hide (fun W => by have := rwithin_calls W x1 8 1024; rw [decide_eq_true h1] at this; exact this)
    have d2 : decide (x0 < y) = false := by simpa using h2
    have HW3 : Hid (∀ W, Calls Tryd.prog 61 #[.int .i64 x2, .int .i64 0, .int .i64 1099511627776] W fun e w' => e = .returned (.bool true) ∧ w' = W) := hide (fun W => by have := rwithin_calls W x2 0 1099511627776; rw [decide_eq_true h3] at this; exact this)
    have HW4 : Hid (∀ W, Calls Tryd.prog 61 #[.int .i64 x3, .int .i64 0, .int .i64 1099511627776] W fun e w' => e = .returned (.bool true) ∧ w' = W) := hide (fun W => by have := rwithin_calls W x3 0 1099511627776; rw [decide_eq_true h4] at this; exact this)
    have HW5 : Hid (∀ W, Calls Tryd.prog 61 #[.int .i64 x4, .int .i64 0, .int .i64 1099511627776] W fun e w' => e = .returned (.bool false) ∧ w' = W) := hide (fun W => by have := rwithin_calls W x4 0 1099511627776; rw [decide_eq_false h5] at this; exact this)
    have HY := hide hy
    clear h0 h1 h2 h3 h4 h5 HM1 HM2 HFR HFM
    go_enter Tryd.func38, Tryd.ntmps38
    go_wp2_with (first
      | (refine wpList_boxJ rfl 27 (.tmp 0) rfl rfl ?_; intro w1 hA1 hb1 hs1
         obtain ⟨c0, c1, c2, c3, c4⟩ := unhide HF w1 hA1
         obtain ⟨hr0, hr1, hr2⟩ := unhide HRG w1 hA1
         have HA1 := hide hA1
         have HB1 := hide hb1
         clear hA1 hb1 hs1)
      | fail)
    refine (unhide HW0 _).mono ?_
    rintro e wx ⟨rfl, hwx⟩
    obtain rfl := hwx.symm
    clear hwx
    go_wp2_with fail
    refine (unhide HW1 _).mono ?_
    rintro e wx ⟨rfl, hwx⟩
    obtain rfl := hwx.symm
    clear hwx
    go_wp2_with fail
    refine (unhide HW3 _).mono ?_
    rintro e wx ⟨rfl, hwx⟩
    obtain rfl := hwx.symm
    clear hwx
    go_wp2_with fail
    refine (unhide HW4 _).mono ?_
    rintro e wx ⟨rfl, hwx⟩
    obtain rfl := hwx.symm
    clear hwx
    go_wp2_with fail
    refine (unhide HW5 _).mono ?_
    rintro e wx ⟨rfl, hwx⟩
    obtain rfl := hwx.symm
    clear hwx
    go_wp2
    go_ret
    exact ⟨rfl, HB1.out⟩
  have HR : Hid (rr = (p && q)) := hide (unhide HM2 h0 h1 (by omega) h3 h4 h5)
  have HF1 := hide (unhide HFR h0.1 h0.2 h1.1 h1.2)
  have HF2 := hide (unhide HFM h0.1 h0.2 h1.1 h1.2)
  rw [HR.out]
  have HW0 : Hid (∀ W, Calls Tryd.prog 61 #[.int .i64 x0, .int .i64 2, .int .i64 65536] W fun e w' => e = .returned (.bool true) ∧ w' = W) := hide (fun W => by have := rwithin_calls W x0 2 65536; rw [decide_eq_true h0] at this; exact this)
  have HW1 : Hid (∀ W, Calls Tryd.prog 61 #[.int .i64 x1, .int .i64 8, .int .i64 1024] W fun e w' => e = .returned (.bool true) ∧ w' = W) := hide (fun W => by have := rwithin_calls W x1 8 1024; rw [decide_eq_true h1] at this; exact this)
  have d2 : decide (x0 < y) = false := by simpa using h2
  have HW3 : Hid (∀ W, Calls Tryd.prog 61 #[.int .i64 x2, .int .i64 0, .int .i64 1099511627776] W fun e w' => e = .returned (.bool true) ∧ w' = W) := hide (fun W => by have := rwithin_calls W x2 0 1099511627776; rw [decide_eq_true h3] at this; exact this)
  have HW4 : Hid (∀ W, Calls Tryd.prog 61 #[.int .i64 x3, .int .i64 0, .int .i64 1099511627776] W fun e w' => e = .returned (.bool true) ∧ w' = W) := hide (fun W => by have := rwithin_calls W x3 0 1099511627776; rw [decide_eq_true h4] at this; exact this)
  have HW5 : Hid (∀ W, Calls Tryd.prog 61 #[.int .i64 x4, .int .i64 0, .int .i64 1099511627776] W fun e w' => e = .returned (.bool true) ∧ w' = W) := hide (fun W => by have := rwithin_calls W x4 0 1099511627776; rw [decide_eq_true h5] at this; exact this)
  have HY := hide hy
  clear h0 h1 h2 h3 h4 h5 HM1 HM2 HFR HFM
  go_enter Tryd.func38, Tryd.ntmps38
  go_wp2_with (first
    | (refine wpList_boxJ rfl 27 (.tmp 0) rfl rfl ?_; intro w1 hA1 hb1 hs1
       obtain ⟨c0, c1, c2, c3, c4⟩ := unhide HF w1 hA1
       obtain ⟨hr0, hr1, hr2⟩ := unhide HRG w1 hA1
       have HA1 := hide hA1
       have HB1 := hide hb1
       clear hA1 hb1 hs1)
    | fail)
  refine (unhide HW0 _).mono ?_
  rintro e wx ⟨rfl, hwx⟩
  obtain rfl := hwx.symm
  clear hwx
  go_wp2_with fail
  refine (unhide HW1 _).mono ?_
  rintro e wx ⟨rfl, hwx⟩
  obtain rfl := hwx.symm
  clear hwx
  go_wp2_with fail
  refine (unhide HW3 _).mono ?_
  rintro e wx ⟨rfl, hwx⟩
  obtain rfl := hwx.symm
  clear hwx
  go_wp2_with fail
  refine (unhide HW4 _).mono ?_
  rintro e wx ⟨rfl, hwx⟩
  obtain rfl := hwx.symm
  clear hwx
  go_wp2_with fail
  refine (unhide HW5 _).mono ?_
  rintro e wx ⟨rfl, hwx⟩
  obtain rfl := hwx.symm
  clear hwx
  go_wp2_with (first
    | (refine wpList_loadJ rfl 27 (.tmp 1) rfl _ 0 rfl cs1 _ hr0 Tryd.underlying27 rfl hinf ?_)
    | (refine wpList_loadJ rfl 25 (.tmp 38) rfl _ 37 rfl cr _ hr1 Tryd.underlying25 rfl hinfR ?_)
    | fail)
  refine (unhide HF1 _).mono ?_
  rintro e w2 ⟨rfl, hb2⟩
  obtain ⟨ht0, ht1, ht2⟩ := unhide HRG w2 (HA1.out.below hb2)
  have HB2 := hide (below_then HB1.out hb2)
  clear hb2 HF1 hr0 hr1 hr2 c0 c1 c2 c3 c4
  cases p with
  | false =>
    go_wp2
    go_ret
    exact ⟨rfl, HB2.out⟩
  | true =>
    go_wp2_with (first
      | (refine wpList_loadOnS (by rfl) 27 (.tmp 1) rfl _ 0 rfl cs1 _ ht0 Tryd.underlying27 rfl hinf ?_)
      | (refine wpList_loadOnS (by rfl) 25 (.tmp 43) rfl _ 71 rfl cm _ ht2 Tryd.underlying25 rfl hinfM ?_)
      | fail)
    refine (unhide HF2 _).mono ?_
    rintro e w3 ⟨rfl, hb3⟩
    have HB3 := hide (below_then HB2.out hb3)
    clear hb3
    go_wp2
    go_ret
    exact ⟨rfl, HB3.out⟩
end Go.Proofs.YtbgknbjpbobebaaDoor
