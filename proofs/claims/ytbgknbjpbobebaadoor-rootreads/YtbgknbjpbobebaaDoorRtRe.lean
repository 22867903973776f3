/- The document's Read. -/
import Derived.Test.YtbgknbjpbobebaaDoorRtSd
namespace Go.Proofs.YtbgknbjpbobebaaDoor
open Go.RowKit Go.Maps

theorem sndO_dec {n i : Nat} {b : List Int} (h : (sndO n b i).isSome = true) : sndO n b i = some (decSR b) := by
  cases e : sndO n b i with
  | none => rw [e] at h; cases h
  | some s => rw [(decSR_some (sndO_some e).1).1]
theorem sndO_non {n i : Nat} {b : List Int} (h : (sndO n b i).isSome = false) : sndO n b i = none := by
  cases e : sndO n b i with
  | none => rfl
  | some s => rw [e] at h; cases h
set_option maxRecDepth 100000 in
set_option maxHeartbeats 4000000 in
theorem rreadS_calls {w : World} {R : RD} {a1 a2 : Option Addr} {n1 c1 n2 c2 : Nat} (h1 : IsAts w (.slice a1 n1 c1) R.la) (h2 : IsAts w (.slice a2 n2 c2) R.wr) (hok1 : AtsOk R.n R.la) (hok2 : AtsOk R.n R.wr) (hby : ∀ i : Nat, i < 2 → By8 (R.now (i : Int))) :
    Calls Tryd.prog 21 #[.agg (rdC (R.n : Int) a1 n1 c1 a2 n2 c2 R.rd R.wt R.fl).toArray] w fun e w' => e = .returned (.tuple #[.agg (slV ((cntS R.n (fun j => R.now (j : Int))).getD .nul)).toArray, .int .i64 (oE (cntS R.n (fun j => R.now (j : Int))))]) ∧ Below w.heap.size w w' := by
  have HS0 : Hid (∀ W, Below w.heap.size w W → Calls Tryd.prog 49 #[.agg (rdC (R.n : Int) a1 n1 c1 a2 n2 c2 R.rd R.wt R.fl).toArray, .int .i64 0] W fun e w' => e = .returned (.tuple #[.agg (slV (decSR (R.now ((0 : Nat) : Int)))).toArray, .bool (sndO R.n (R.now ((0 : Nat) : Int)) 0).isSome]) ∧ Below W.heap.size W w') := hide (fun W hW => rsound_calls (i := 0) (h1.below hW) (h2.below hW) hok1 hok2 (hby 0 (by decide)))
  have HS1 : Hid (∀ W, Below w.heap.size w W → Calls Tryd.prog 49 #[.agg (rdC (R.n : Int) a1 n1 c1 a2 n2 c2 R.rd R.wt R.fl).toArray, .int .i64 1] W fun e w' => e = .returned (.tuple #[.agg (slV (decSR (R.now ((1 : Nat) : Int)))).toArray, .bool (sndO R.n (R.now ((1 : Nat) : Int)) 1).isSome]) ∧ Below W.heap.size W w') := hide (fun W hW => rsound_calls (i := 1) (h1.below hW) (h2.below hW) hok1 hok2 (hby 1 (by decide)))
  have hk0 := decSR_ok (hby 0 (by decide))
  have hk1 := decSR_ok (hby 1 (by decide))
  have hres : cntS R.n (fun j => R.now (j : Int)) = newer (newer none (sndO R.n (R.now ((0 : Nat) : Int)) 0)) (sndO R.n (R.now ((1 : Nat) : Int)) 1) := rfl
  rw [hres]
  have hinfD := rdC_infoS (R.n : Int) a1 n1 c1 a2 n2 c2 R.rd R.wt R.fl
  generalize rdC (R.n : Int) a1 n1 c1 a2 n2 c2 R.rd R.wt R.fl = rcD at *
  generalize R.now ((0 : Nat) : Int) = b0 at *
  generalize R.now ((1 : Nat) : Int) = b1 at *
  generalize R.n = N at *
  have hinf0 := infoSof hk0
  have hlen0 : z105.length = (slV (decSR b0)).length := by rw [slV_len hk0]; rfl
  have hone0 := slV_one (decSR b0)
  have hinf1 := infoSof hk1
  have hlen1 : z105.length = (slV (decSR b1)).length := by rw [slV_len hk1]; rfl
  have hone1 := slV_one (decSR b1)
  have hinfN := infoSof SL.nul_ok
  have hlenN : z105.length = (slV SL.nul).length := by rw [slV_len SL.nul_ok]; rfl
  have honeN := slV_one SL.nul
  have HBN := hide bldS0
  have HT : Hid (∀ W g4 g6, Arr W g4 27 (slV (decSR b0)) → Arr W g6 27 (slV (decSR b1)) → W.cell? ⟨g4, 2, none⟩ = some (.int .i64 (decSR b0).t) ∧ W.cell? ⟨g6, 2, none⟩ = some (.int .i64 (decSR b1).t)) := hide (fun W g4 g6 q1 q2 => ⟨(q1.cell 2).trans (slV_at _).2.2.1, (q2.cell 2).trans (slV_at _).2.2.1⟩)
  have HV00 : Hid ((sndO N b0 0).isSome = false → (sndO N b1 1).isSome = false → slV ((newer (newer none (sndO N b0 0)) (sndO N b1 1)).getD .nul) = slV .nul ∧ oE (newer (newer none (sndO N b0 0)) (sndO N b1 1)) = 180) := hide (fun q0 q1 => by rw [sndO_non q0, sndO_non q1]; exact ⟨rfl, rfl⟩)
  have HV10 : Hid ((sndO N b0 0).isSome = true → (sndO N b1 1).isSome = false → slV ((newer (newer none (sndO N b0 0)) (sndO N b1 1)).getD .nul) = slV (decSR b0) ∧ oE (newer (newer none (sndO N b0 0)) (sndO N b1 1)) = 0) := hide (fun q0 q1 => by rw [sndO_dec q0, sndO_non q1]; exact ⟨rfl, rfl⟩)
  have HV01 : Hid ((sndO N b0 0).isSome = false → (sndO N b1 1).isSome = true → slV ((newer (newer none (sndO N b0 0)) (sndO N b1 1)).getD .nul) = slV (decSR b1) ∧ oE (newer (newer none (sndO N b0 0)) (sndO N b1 1)) = 0) := hide (fun q0 q1 => by rw [sndO_non q0, sndO_dec q1]; exact ⟨rfl, rfl⟩)
  have HV11 : Hid ((sndO N b0 0).isSome = true → (sndO N b1 1).isSome = true → (decSR b0).t < (decSR b1).t → slV ((newer (newer none (sndO N b0 0)) (sndO N b1 1)).getD .nul) = slV (decSR b1) ∧ oE (newer (newer none (sndO N b0 0)) (sndO N b1 1)) = 0) := hide (fun q0 q1 hlt => by
    rw [sndO_dec q0, sndO_dec q1]
    have e : newer (newer none (some (decSR b0))) (some (decSR b1)) = some (decSR b1) := by show (if (decSR b0).t < (decSR b1).t then some (decSR b1) else some (decSR b0)) = _; rw [if_pos hlt]
    rw [e]; exact ⟨rfl, rfl⟩)
  have HV1n : Hid ((sndO N b0 0).isSome = true → (sndO N b1 1).isSome = true → ¬ (decSR b0).t < (decSR b1).t → slV ((newer (newer none (sndO N b0 0)) (sndO N b1 1)).getD .nul) = slV (decSR b0) ∧ oE (newer (newer none (sndO N b0 0)) (sndO N b1 1)) = 0) := hide (fun q0 q1 hlt => by
    rw [sndO_dec q0, sndO_dec q1]
    have e : newer (newer none (some (decSR b0))) (some (decSR b1)) = some (decSR b0) := by show (if (decSR b0).t < (decSR b1).t then some (decSR b1) else some (decSR b0)) = _; rw [if_neg hlt]
    rw [e]; exact ⟨rfl, rfl⟩)
  generalize hrs : slV ((newer (newer none (sndO N b0 0)) (sndO N b1 1)).getD .nul) = rs at *
  generalize hre : oE (newer (newer none (sndO N b0 0)) (sndO N b1 1)) = re at *
  clear hrs hre hres
  generalize (sndO N b0 0).isSome = s0 at *
  generalize (sndO N b1 1).isSome = s1 at *
  generalize slV (decSR b0) = d0 at *
  generalize slV (decSR b1) = d1 at *
  generalize (decSR b0).t = t0 at *
  generalize (decSR b1).t = t1 at *
  generalize slV SL.nul = dN at *
  clear h1 h2 hok1 hok2 hby hk0 hk1
  go_enter Tryd.func21, Tryd.ntmps21
  go_wp2_with (first
    | (refine wpList_boxJ rfl 44 (.tmp 0) rfl rfl ?_; intro w1 hA1 hb1 hs1
       have hba := jalloc_below w1 (.cells z105.toArray 27)
       have hA2 := Arr.new w1 z105 27
       have hrgD := (hA1.below hba).rangeJ
       have HAD := hide (hA1.below hba)
       have HA2 := hide hA2
       have HB2 := hide (below_then hb1 hba)
       have HG2 : Hid (w.heap.size ≤ w1.heap.size) := hide (by omega)
       clear hA1 hb1 hs1 hba hA2)
    | (refine wpList_allocJ rfl 27 rfl infoSlo ?_; generalize w1.alloc (.cells z105.toArray 27) = w2 at *; generalize w1.heap.size = g2 at *)
    | (refine wpList_loadJ rfl 44 (.tmp 1) rfl _ 0 rfl rcD _ hrgD Tryd.underlying44 rfl hinfD ?_)
    | fail)
  refine (unhide HS0 _ HB2.out).mono ?_
  rintro e w3 ⟨rfl, hb3⟩
  have HX : Hid (∀ w4, (w3.alloc (.cells z105.toArray 27)).grownBy w4 (some w3.heap.size) → Arr w4 w.heap.size 44 rcD ∧ Arr w4 g2 27 z105 ∧ Below w.heap.size w w4) := hide (fun w4 hg4 => by
    have hba := jalloc_below w3 (.cells z105.toArray 27)
    have hb4 := jbelow_grown hba hg4 hba.size (Nat.le_refl _)
    exact ⟨(HAD.out.below hb3).below hb4, (HA2.out.below hb3).below hb4, below_then (below_then HB2.out hb3) hb4⟩)
  clear HS0 hb3 hrgD
  go_wp2_with (first
    | (refine wpList_allocJ rfl 27 rfl infoSlo ?_)
    | (refine wpList_storeJ rfl (.tmp 4) (.tmp 11) 27 rfl rfl rfl (Arr.new w3 z105 27) hinf0 hlen0 hone0 ?_; intro w4 hA4 hg4
       obtain ⟨hD4, hA24, hB4⟩ := unhide HX w4 hg4
       have hrgD4 := hD4.rangeJ
       have HA4 := hide hA4
       have HA24 := hide hA24
       have HB4 := hide hB4
       clear hA4 hg4 hD4 hA24 hB4 HX HAD HA2 HB2)
    | (refine wpList_loadJ rfl 44 (.tmp 1) rfl _ 0 rfl rcD _ hrgD4 Tryd.underlying44 rfl hinfD ?_)
    | fail)
  generalize w3.heap.size = g4 at *
  refine (unhide HS1 _ HB4.out).mono ?_
  rintro e w5 ⟨rfl, hb5⟩
  have HX : Hid (∀ w6, Arr w6 w5.heap.size 27 d1 → (w5.alloc (.cells z105.toArray 27)).grownBy w6 (some w5.heap.size) → Arr w6 g4 27 d0 ∧ Arr w6 g2 27 z105 ∧ Below w.heap.size w w6) := hide (fun w6 _ hg6 => by
    have hba := jalloc_below w5 (.cells z105.toArray 27)
    have hb6 := jbelow_grown hba hg6 hba.size (Nat.le_refl _)
    exact ⟨(HA4.out.below hb5).below hb6, (HA24.out.below hb5).below hb6, below_then (below_then HB4.out hb5) hb6⟩)
  clear HS1 hb5 hrgD4
  cases s1 with
  | false =>
    cases s0 with
    | false =>
      have HQ := hide (unhide HV00 rfl rfl)
      clear HV00 HV01 HV10 HV11 HV1n
      go_wp2_with (first
        | (refine wpList_allocJ rfl 27 rfl infoSlo ?_)
        | (refine wpList_storeJ rfl (.tmp 6) (.tmp 16) 27 rfl rfl rfl (Arr.new w5 z105 27) hinf1 hlen1 hone1 ?_; intro w6 hA6 hg6
           obtain ⟨hA46, hA26, hB6⟩ := unhide HX w6 hA6 hg6
           obtain ⟨k0, k1⟩ := unhide HT w6 _ _ hA46 hA6
           have hrg6 := hA6.rangeJ
           have hrg4 := hA46.rangeJ
           have HA26 := hide hA26
           have HB6 := hide hB6
           clear hA6 hg6 hA46 hA26 hB6 HX)
        | (refine wpList_bldJ rfl 27 rfl HBN.out ?_)
        | (refine wpList_storeJ rfl (.tmp 2) (.tmp 33) 27 rfl rfl rfl HA26.out hinfN hlenN honeN ?_; intro w9 hA9 hg9)
        | fail)
      have hA9' : Arr w9 g2 27 dN := hA9
      refine bodyPost_ret (results_rowJ2 rfl rfl rfl hA9' Tryd.underlying27 rfl hinfN) rfl ?_
      rw [HQ.out.1, HQ.out.2]
      exact ⟨rfl, jbelow_grown HB6.out hg9 HB6.out.size HG2.out⟩
    | true =>
      have HQ := hide (unhide HV10 rfl rfl)
      clear HV00 HV01 HV10 HV11 HV1n
      go_wp2_with (first
        | (refine wpList_allocJ rfl 27 rfl infoSlo ?_)
        | (refine wpList_storeJ rfl (.tmp 6) (.tmp 16) 27 rfl rfl rfl (Arr.new w5 z105 27) hinf1 hlen1 hone1 ?_; intro w6 hA6 hg6
           obtain ⟨hA46, hA26, hB6⟩ := unhide HX w6 hA6 hg6
           obtain ⟨k0, k1⟩ := unhide HT w6 _ _ hA46 hA6
           have hrg6 := hA6.rangeJ
           have hrg4 := hA46.rangeJ
           have HA26 := hide hA26
           have HB6 := hide hB6
           clear hA6 hg6 hA46 hA26 hB6 HX)
        | (refine wpList_loadJ rfl 27 (.tmp 4) rfl _ 0 rfl d0 _ hrg4 Tryd.underlying27 rfl hinf0 ?_)
        | (refine wpList_storeJ rfl (.tmp 2) (.tmp 32) 27 rfl rfl rfl HA26.out hinf0 hlen0 hone0 ?_; intro w9 hA9 hg9)
        | fail)
      have hA9' : Arr w9 g2 27 d0 := hA9
      refine bodyPost_ret (results_rowJ2 rfl rfl rfl hA9' Tryd.underlying27 rfl hinf0) rfl ?_
      rw [HQ.out.1, HQ.out.2]
      exact ⟨rfl, jbelow_grown HB6.out hg9 HB6.out.size HG2.out⟩
  | true =>
    cases s0 with
    | false =>
      have HQ := hide (unhide HV01 rfl rfl)
      clear HV00 HV01 HV10 HV11 HV1n
      go_wp2_with (first
        | (refine wpList_allocJ rfl 27 rfl infoSlo ?_)
        | (refine wpList_storeJ rfl (.tmp 6) (.tmp 16) 27 rfl rfl rfl (Arr.new w5 z105 27) hinf1 hlen1 hone1 ?_; intro w6 hA6 hg6
           obtain ⟨hA46, hA26, hB6⟩ := unhide HX w6 hA6 hg6
           obtain ⟨k0, k1⟩ := unhide HT w6 _ _ hA46 hA6
           have hrg6 := hA6.rangeJ
           have hrg4 := hA46.rangeJ
           have HA26 := hide hA26
           have HB6 := hide hB6
           clear hA6 hg6 hA46 hA26 hB6 HX)
        | (refine wpList_loadJ rfl 27 (.tmp 6) rfl _ 0 rfl d1 _ hrg6 Tryd.underlying27 rfl hinf1 ?_)
        | (refine wpList_storeJ rfl (.tmp 2) (.tmp 30) 27 rfl rfl rfl HA26.out hinf1 hlen1 hone1 ?_; intro w9 hA9 hg9)
        | fail)
      have hA9' : Arr w9 g2 27 d1 := hA9
      refine bodyPost_ret (results_rowJ2 rfl rfl rfl hA9' Tryd.underlying27 rfl hinf1) rfl ?_
      rw [HQ.out.1, HQ.out.2]
      exact ⟨rfl, jbelow_grown HB6.out hg9 HB6.out.size HG2.out⟩
    | true =>
      by_cases hlt : t0 < t1
      · have HQ := hide (unhide HV11 rfl rfl hlt)
        clear HV00 HV01 HV10 HV11 HV1n
        go_wp2_with (first
          | (refine wpList_allocJ rfl 27 rfl infoSlo ?_)
          | (refine wpList_storeJ rfl (.tmp 6) (.tmp 16) 27 rfl rfl rfl (Arr.new w5 z105 27) hinf1 hlen1 hone1 ?_; intro w6 hA6 hg6
             obtain ⟨hA46, hA26, hB6⟩ := unhide HX w6 hA6 hg6
             obtain ⟨k0, k1⟩ := unhide HT w6 _ _ hA46 hA6
             have hrg6 := hA6.rangeJ
             have hrg4 := hA46.rangeJ
             have HA26 := hide hA26
             have HB6 := hide hB6
             clear hA6 hg6 hA46 hA26 hB6 HX)
          | (refine wpList_loadJ rfl 27 (.tmp 6) rfl _ 0 rfl d1 _ hrg6 Tryd.underlying27 rfl hinf1 ?_)
          | (refine wpList_storeJ rfl (.tmp 2) (.tmp 30) 27 rfl rfl rfl HA26.out hinf1 hlen1 hone1 ?_; intro w9 hA9 hg9)
          | fail)
        have hA9' : Arr w9 g2 27 d1 := hA9
        refine bodyPost_ret (results_rowJ2 rfl rfl rfl hA9' Tryd.underlying27 rfl hinf1) rfl ?_
        rw [HQ.out.1, HQ.out.2]
        exact ⟨rfl, jbelow_grown HB6.out hg9 HB6.out.size HG2.out⟩
      · have HQ := hide (unhide HV1n rfl rfl (by omega))
        have hltd : decide (t0 < t1) = false := by simpa using hlt
        clear HV00 HV01 HV10 HV11 HV1n
        go_wp2_with (first
          | (refine wpList_allocJ rfl 27 rfl infoSlo ?_)
          | (refine wpList_storeJ rfl (.tmp 6) (.tmp 16) 27 rfl rfl rfl (Arr.new w5 z105 27) hinf1 hlen1 hone1 ?_; intro w6 hA6 hg6
             obtain ⟨hA46, hA26, hB6⟩ := unhide HX w6 hA6 hg6
             obtain ⟨k0, k1⟩ := unhide HT w6 _ _ hA46 hA6
             have hrg6 := hA6.rangeJ
             have hrg4 := hA46.rangeJ
             have HA26 := hide hA26
             have HB6 := hide hB6
             clear hA6 hg6 hA46 hA26 hB6 HX)
          | (refine wpList_loadJ rfl 27 (.tmp 4) rfl _ 0 rfl d0 _ hrg4 Tryd.underlying27 rfl hinf0 ?_)
          | (refine wpList_storeJ rfl (.tmp 2) (.tmp 32) 27 rfl rfl rfl HA26.out hinf0 hlen0 hone0 ?_; intro w9 hA9 hg9)
          | fail)
        have hA9' : Arr w9 g2 27 d0 := hA9
        refine bodyPost_ret (results_rowJ2 rfl rfl rfl hA9' Tryd.underlying27 rfl hinf0) rfl ?_
        rw [HQ.out.1, HQ.out.2]
        exact ⟨rfl, jbelow_grown HB6.out hg9 HB6.out.size HG2.out⟩
end Go.Proofs.YtbgknbjpbobebaaDoor
