/- SpaceWay's walk, the call. -/
import Derived.Test.YtifmfnkpogconaaDoorWay7
import Derived.Deep.DeepCutAuto
import Derived.Deep.CutRange
namespace Go.Proofs.YtifmfnkpogconaaDoor
open Go.RowKit

theorem infoBo : (Tryd.prog.info? 4).map (fun i => (i.zero, i.size, i.bytes)) = some (some (.bool false), 1, 1) := by kernel_rfl
/-- Two spaces of the same words; the first one's pointer. -/
def WayMid (w : World) (gb gwb gg n f t : Nat) (gl : List Bool) (gO : Nat) (N : Int) (av : Value) (W : World) : Prop := ∃ ga gwa ws, av = .pointer (some ⟨ga, 0, none⟩) ∧ Wm w W ga gwa gb gwb gg n f t ws ws gl ∧ W.cell? ⟨gO, 2, none⟩ = some (.int .i64 N)
def WayRel (w : World) (gb gwb gg n f t : Nat) (gl : List Bool) (L : Nat) (av iv : Value) (W : World) : Prop := ∃ ga gwa k ws, k ≤ L ∧ k ≤ 200 ∧ av = .pointer (some ⟨ga, 0, none⟩) ∧ iv = .int .i64 ((k : Nat) : Int) ∧ Wm w W ga gwa gb gwb gg n f t ws ws gl
set_option maxRecDepth 100000 in
set_option maxHeartbeats 4000000 in
theorem way_walk {w : World} (x y : Int) {vw vs : Value} {cw : List Int} {os : List OpI} (hw : IsI w vw cw) (ho : IsOps w vs os) (hT : Tz w) : Calls Tryd.prog 7 #[.int .i64 x, .int .i64 y, vw, vs] w fun e w' => e = .returned (.bool true) ∧ Below w.heap.size w w' := by
  have hG : 0 < w.heap.size := World.block_lt_of_cell? _ _ (hT 0 (by decide))
  obtain ⟨i0, hi, hz0, hz1, hz2⟩ := info_part infoBo
  have hf1 : pl x 60000 < 60000 := pl_lt (by decide)
  have hm1 : pl y 300 < 300 := pl_lt (by decide)
  have HP1 : Hid (Calls Tryd.prog 15 #[.int .i64 x, .int .i64 60000] w fun e w' => e = .returned (.int .i64 ((pl x 60000 : Nat) : Int)) ∧ w' = w) := place4_calls x 60000 (by decide) (by decide) w
  have HP2 : Hid (Calls Tryd.prog 15 #[.int .i64 y, .int .i64 300] w fun e w' => e = .returned (.int .i64 ((pl y 300 : Nat) : Int)) ∧ w' = w) := place4_calls y 300 (by decide) (by decide) w
  generalize pl x 60000 = f at *
  generalize pl y 300 = m at *
  obtain ⟨n, hn⟩ : ∃ n, n = 1 + m := ⟨_, rfl⟩
  have HNN : Hid ((1 + (m : Int)) = (n : Int)) := by show _ = _; omega
  have hn0 : 0 < n := by omega
  have hn3 : n ≤ 300 := by omega
  obtain ⟨t, ht⟩ : ∃ t, t = f + n := ⟨_, rfl⟩
  have HTT : Hid ((f : Int) + (n : Int) = (t : Int)) := by show _ = _; omega
  have hft : f < t := by omega
  have ht6 : t ≤ 65536 := by omega
  have HTF : Hid (t - f = n) := by show _ = _; omega
  have HN : Hid (∀ W, Calls Tryd.prog 16 #[.int .i64 (f : Int), .int .i64 ((f : Int) + (n : Int))] W fun e w' => ∃ g gw, e = .returned (.tuple #[.pointer (some ⟨g, 0, none⟩), .int .i64 0]) ∧ Hid (Sp w' W.heap.size g gw f t (newW n) ∧ Below W.heap.size W w')) := by
    show ∀ W, _
    intro W
    rw [HTT.out, ← HTF.out]
    exact (spNew_calls f t hft ht6).mono fun e w' ⟨g, gw, e1, e2, _, e4⟩ => ⟨g, gw, e1, e2, e4⟩
  have HN0 : Hid (∀ W, Calls Tryd.prog 17 #[.int .i64 0] W fun e w' => e = .returned (.int .i64 0) ∧ w' = W) := fun W => num4_calls 0 W
  have HTZ : Hid (∀ W, Below w.heap.size w W → Tz W) := fun W hW => hT.keep hW hG
  have HWH := hide hw
  have HO := hide ho
  obtain ⟨aw, kw, hvw, hwc, hwm, hwo⟩ := hw.val
  obtain ⟨av, cv, hvv, hvc, hvm, hvo⟩ := ho.val
  subst hvw hvv
  obtain ⟨LW, hLW⟩ : ∃ LW, LW = cw.length := ⟨_, rfl⟩
  obtain ⟨L, hL⟩ : ∃ L, L = os.length := ⟨_, rfl⟩
  rw [← hLW] at hwc hwo ⊢
  rw [← hL] at hvc hvo ⊢
  have HWO := hide hwo
  have HVO := hide hvo
  have hLWb : LW ≤ 9223372036854775807 := by omega
  clear hT hw ho ht hn hwo hvo hLW hL
  go_enter Tryd.func7, Tryd.ntmps7
  go_wp2_with fail
  refine (unhide HP1).mono ?_
  rintro e w1 ⟨rfl, hw1⟩
  obtain rfl := hw1.symm
  clear hw1
  go_wp2_with fail
  refine (unhide HP2).mono ?_
  rintro e w1 ⟨rfl, hw1⟩
  obtain rfl := hw1.symm
  clear hw1
  go_wp2_with fail
  rw [HNN.out]
  clear HNN hm1 HP1 HP2
  refine (unhide HN w).mono ?_
  rintro e w1 ⟨ga, gwa, rfl, HS1⟩
  go_wp2_with fail
  refine (unhide HN w1).mono ?_
  rintro e w2 ⟨gb, gwb, rfl, HS2⟩
  go_wp2_with fail
  refine (unhide HN0 w2).mono ?_
  rintro e w3 ⟨rfl, hw3⟩
  obtain rfl := hw3.symm
  clear hw3
  go_wp2_with fail
  refine (unhide HN0 w2).mono ?_
  rintro e w3 ⟨rfl, hw3⟩
  obtain rfl := hw3.symm
  clear hw3
  have hz12 : w.heap.size ≤ w2.heap.size := Nat.le_trans (HS1.out).2.size (HS2.out).2.size
  go_wp2_with (at_make; refine wpList_make_full _ rfl _ _ 48 rfl w.heap.size 4 i0 (.bool false) 1 Tryd.underlying48 hi hz0 hz1 .i64 .i64 _ _ n rfl rfl rfl rfl (by rw [hz2]; omega) (by unfold maxLen; omega) hz12 ?_; intro w3 hown hgrow)
  have HM0 : Hid (Wm w w3 ga gwa gb gwb w2.heap.size n f t (newW n) (newW n) (List.replicate n false)) := by
    obtain ⟨s1, b1⟩ := HS1.out
    obtain ⟨s2, b2⟩ := HS2.out
    have b3 : Below w2.heap.size w2 w3 := ⟨hgrow.os, hgrow.tape, hgrow.output, hgrow.size, fun k hk => hgrow.block k hk (by simp)⟩
    rw [madeB] at hown
    obtain ⟨_, _, _, q2⟩ := s1.words
    have q3 := (Array.getElem?_eq_some_iff.1 q2).1
    have q4 := s2.words.1
    exact ⟨(b1.trans (b2.mono b1.size)).trans (b3.mono hz12), (s1.below b2).below b3, (s2.below b3).mono b1.size, by omega, by unfold Row; rw [bV_len, List.length_replicate]; exact hown, by simp⟩
  generalize w2.heap.size = gg at *
  clear hown hgrow HS1 HS2 HN HN0 hz12
  have HPN : Hid (∀ (z : Int) W, Calls Tryd.prog 15 #[.int .i64 z, .int .i64 (n : Int)] W fun e w' => e = .returned (.int .i64 ((pl z n : Nat) : Int)) ∧ w' = W) := fun z W => place4_calls z n hn0 (by omega) W
  go_wp2_with fail
  go_loopw [14] (fun iv wr => ∃ (k : Nat), k ≤ LW ∧ iv = .int .i64 (k : Int) ∧ Hid (∃ wsA bs, Wm w wr ga gwa gb gwb gg n f t wsA (newW n) (bs.map (!·)) ∧ Tw f t wsA bs)) (fun i _ => LW - (intOf i).toNat)
  case atStart =>
    refine ⟨0, by omega, rfl, newW n, List.replicate n true, ?_, ?_⟩
    · have := HM0.out
      simpa using this
    · have := Tw.new hft
      rw [HTF.out] at this
      exact this
  case round =>
    clear HM0
    obtain ⟨k, hk, rfl, HK⟩ := hrel
    obtain ⟨wsA, bs, hM, hTw⟩ := HK.out
    by_cases hlt : k < LW
    · obtain ⟨b, off, rfl, hcw⟩ := HWO.out (by omega)
      have c0 : wr.cell? ⟨b, off + k, none⟩ = some (.int .i64 (cw.getD k 0)) := (hM.bel.cell (p := ⟨b, off + k, none⟩) (World.block_lt_of_cell? _ _ (hcw k hlt))).trans (hcw k hlt)
      generalize cw.getD k 0 = z at *
      have hq : pl z n < n := pl_lt hn0
      have HPZ := hide (unhide HPN z wr)
      generalize pl z n = q at *
      have hlb : bs.length = n := by rw [hTw.len]; exact HTF.out
      have hqt : q < t - f := by rw [HTF.out]; exact hq
      have HC : Hid (∀ W, Below wr.heap.size wr W → Calls Tryd.prog 20 #[.pointer (some ⟨ga, 0, none⟩), .int .i64 ((f : Int) + (q : Int))] W fun e w' => e = .returned (.bool (bs.getD q false)) ∧ wr.grownBy w' (some gwa) ∧ Hid (Wm w w' ga gwa gb gwb gg n f t (claimW f t wsA ((f : Int) + (q : Int))) (newW n) (bs.map (!·)))) := fun W hW => (claim_calls (hM.below hW).a ((f : Int) + (q : Int))).mono fun e w' ⟨e1, e2, e3⟩ => ⟨by rw [← hTw.hasAt hqt]; exact e1, ⟨e3.os.trans hW.os, e3.tape.trans hW.tape, e3.output.trans hW.output, Nat.le_trans hW.size e3.size, fun k hk hne => (e3.block k (Nat.lt_of_lt_of_le hk hW.size) hne).trans (hW.block k hk)⟩, (hM.below hW).moveA e2 e3⟩
      have HSS : Hid (∀ W, wr.grownBy W (some gwa) → wr.grownBy W (some gwa) ∧ W.cell? ⟨gg, q, none⟩ = some (.bool (!(bs.getD q false)))) := fun W hW => by
        obtain ⟨k1, cs, mk, k2⟩ := hM.a.words
        have hc : Ch w.heap.size (fun t => t = 71) wr W := Ch.of_grown hW k1 k2 rfl
        refine ⟨hW, ?_⟩
        have hr := hM.gone.ch hc (by decide)
        rw [hr.cellAt (by rw [bV_len, hM.len]; exact hq)]
        have e := not_get (bs := bs) (k := q) (by omega)
        rw [← e]
        unfold bV
        rw [List.getElem?_map, List.getD_eq_getElem?_getD, List.getElem?_eq_getElem (by rw [hM.len]; exact hq)]
        rfl
      have HTW2 := hide (hTw.claimAt hqt)
      have HE : Hid (∀ w5, Hid (Wm w w5 ga gwa gb gwb gg n f t (claimW f t wsA ((f : Int) + (q : Int))) (newW n) (bs.map (!·))) → w5.frozen? ⟨gg, q, none⟩ = false ∧ (∃ u, w5.cell? ⟨gg, q, none⟩ = some u) ∧ Hid (∃ wsA bs, Wm w (w5.setCell ⟨gg, q, none⟩ (.bool true)) ga gwa gb gwb gg n f t wsA (newW n) (bs.map (!·)) ∧ Tw f t wsA bs)) := fun w5 h5 => by
        have h6 := (h5.out).mark q true
        rw [not_set] at h6
        exact ⟨((h5.out).cell hq).2, ⟨_, ((h5.out).cell hq).1⟩, _, _, h6, HTW2.out⟩
      have hqI : (q : Int) < (n : Int) := by omega
      have hwf : IntKind.i64.wrap ((f : Int) + (q : Int)) = (f : Int) + (q : Int) := by rw [IntKind.wrap_i64]; omega
      have hq0 : (0 : Int) ≤ (q : Int) := by omega
      have hkI : (k : Int) < (LW : Int) := by omega
      generalize bs.getD q false = bb at *
      have gbb : (bb == !bb) = false := by cases bb <;> rfl
      have HQ := hide hq
      clear hM hTw hcw hlb hqt hq HK
      go_wp2_with fail
      refine (unhide HPZ).mono ?_
      rintro e w4 ⟨rfl, hw4⟩
      obtain rfl := hw4.symm
      clear hw4
      go_wp2_with fail
      focus (go_region_held3 (fun W => wr.grownBy W (some gwa) ∧ W.cell? ⟨gg, q, none⟩ = some (.bool (!bb)))
        ((refine unhide HSS _ ?_; repeat (first | assumption | exact grown_of_below (Below.refl _ _) | exact grown_of_below ((Below.refl _ _).drew))))
        (first
          | (go_at_call 20; with_reducible refine (unhide HC _ (by first | assumption | exact (Below.refl _ _).drew)).mono ?_; rintro e w5 ⟨rfl, hg5, HM5⟩)))
      obtain ⟨hfr, ⟨u, hcu⟩, HN5⟩ := unhide HE w5 HM5
      clear hg5
      go_wp2
      exact ⟨⟨k + 1, by omega, by go_num, HN5⟩, by simp [intOf]; omega⟩
    · have HMB := hide hM
      have HTWB := hide hTw
      have hfree : freeN (newW n) = n := by
        have h0 := hM.b
        rw [← HTF.out] at h0
        rw [← HTF.out]
        exact free_new h0 hft
      have HTA : Hid (Calls Tryd.prog 19 #[.pointer (some ⟨gb, 0, none⟩), .int .i64 (n : Int)] wr fun e w' => ∃ v, e = .returned (.tuple #[v, .bool true]) ∧ (∃ a c, v = .slice a n c) ∧ Hid (∃ wsB, Wm w w' ga gwa gb gwb gg n f t wsA wsB (bs.map (!·)) ∧ Tw f t wsB (List.replicate n false))) := (takeAll_calls hM.b (unhide HTZ wr hM.bel) n (by rw [hfree]; exact Nat.le_refl _)).mono fun e w' ⟨v, e1, e2, e3, e4⟩ => by
        refine ⟨v, e1, ?_, _, hM.moveB e3 e4, ?_⟩
        · obtain ⟨a, c, hs⟩ := e2.shape
          refine ⟨a, c, ?_⟩
          rw [hs, iV_len, List.length_take, freeN_allF, hfree, Nat.min_self]
        · have h0 := (Tw.new hft)
          have h1 := hM.b
          rw [← HTF.out] at h1
          have h2 := h0.takeAll h1 (t - f)
          rw [clr_full] at h2
          rw [← HTF.out]
          exact h2
      have HSB : Hid (bs.length = n) := by show _ = _; rw [hTw.len]; exact HTF.out
      clear hM hTw HK hfree
      have gnn : ((n : Int) != (n : Int)) = false := by simp
      go_wp2_with fail
      refine (unhide HTA).mono ?_
      rintro e w4 ⟨v4, rfl, ⟨a4, c4, rfl⟩, HM4⟩
      clear HTA HMB
      generalize wr = wr1 at *
      go_wp2_with fail
      go_loopw [18] (fun iv wr => ∃ (k : Nat), k ≤ n ∧ iv = .int .i64 ((k : Int) - 1) ∧ Hid (∃ wsB cs, Wm w wr ga gwa gb gwb gg n f t wsA wsB (bs.map (!·)) ∧ Tw f t wsB cs ∧ ∀ j, j < n → cs.getD j false = (decide (k ≤ j) && bs.getD j false))) (fun i _ => (intOf i + 1).toNat)
      case atStart =>
        refine ⟨n, by omega, by congr 1, ?_⟩
        obtain ⟨wsB, h1, h2⟩ := HM4.out
        refine ⟨wsB, _, h1, h2, fun j hj => ?_⟩
        rw [decide_eq_false (by omega), Bool.false_and]
        simp [List.getD_eq_getElem?_getD, hj]
      case round =>
        clear HM4
        obtain ⟨k, hk, rfl, HK⟩ := hrel
        by_cases hk0 : 0 < k
        · obtain ⟨wsB, cs, hM, hTb, hcs⟩ := HK.out
          obtain ⟨q, rfl⟩ : ∃ q, k = q + 1 := ⟨k - 1, by omega⟩
          have e1 : (((q + 1 : Nat) : Int) - 1) = (q : Int) := by omega
          rw [e1]
          have hqn : q < n := by omega
          have hqt : q < t - f := by rw [HTF.out]; exact hqn
          have c0 := (hM.cell hqn).1
          rw [not_get (by rw [HSB.out]; exact hqn)] at c0
          have hcl : cs.length = n := by rw [hTb.len]; exact HTF.out
          have hc0 := hcs q hqn
          rw [decide_eq_false (by omega), Bool.false_and] at hc0
          have hq0 : (0 : Int) ≤ (q : Int) := by omega
          have hqI : (q : Int) < (n : Int) := by omega
          have hwf : IntKind.i64.wrap ((f : Int) + (q : Int)) = (f : Int) + (q : Int) := by rw [IntKind.wrap_i64]; omega
          by_cases hbq : bs.getD q false = true
          · rw [hbq] at c0
            have HGB : Hid (Calls Tryd.prog 21 #[.pointer (some ⟨gb, 0, none⟩), .int .i64 ((f : Int) + (q : Int))] wr fun e w' => e = .returned (.bool true) ∧ Hid (∃ wsB cs, Wm w w' ga gwa gb gwb gg n f t wsA wsB (bs.map (!·)) ∧ Tw f t wsB cs ∧ ∀ j, j < n → cs.getD j false = (decide (q ≤ j) && bs.getD j false))) := (hM.giveB ((f : Int) + (q : Int))).mono fun e w' ⟨r1, r2, _⟩ => by
              refine ⟨?_, _, _, r2.out, hTb.giveAt hqt hc0, fun j hj => ?_⟩
              · rw [r1, hTb.giveAtB hqt, hc0]; rfl
              · rw [getD_set (by omega)]
                by_cases e : j = q
                · subst e; rw [if_pos rfl, decide_eq_true (Nat.le_refl _), hbq]; rfl
                · rw [if_neg e, hcs j hj]
                  congr 1
                  exact decide_eq_decide.2 (by omega)
            clear hM hTb hcs hc0 hcl hbq e1 HK
            go_wp2_with fail
            refine (unhide HGB).mono ?_
            rintro e w5 ⟨rfl, HM5⟩
            go_wp2
            exact ⟨⟨q, by omega, rfl, HM5⟩, by simp [intOf]⟩
          · have hbq2 : bs.getD q false = false := by simpa using hbq
            rw [hbq2] at c0
            have HM5 : Hid (∃ wsB cs, Wm w wr ga gwa gb gwb gg n f t wsA wsB (bs.map (!·)) ∧ Tw f t wsB cs ∧ ∀ j, j < n → cs.getD j false = (decide (q ≤ j) && bs.getD j false)) := by
              refine ⟨wsB, cs, hM, hTb, fun j hj => ?_⟩
              rw [hcs j hj]
              by_cases e : j = q
              · subst e; rw [hbq2, Bool.and_false, Bool.and_false]
              · congr 1
                exact decide_eq_decide.2 (by omega)
            clear hM hTb hcs hc0 hcl hbq hbq2 e1 HK
            go_wp2
            exact ⟨⟨q, by omega, rfl, HM5⟩, by simp [intOf]⟩
        · obtain rfl : k = 0 := by omega
          obtain ⟨wsB, cs, hM, hTb, hcs⟩ := HK.out
          have hww : wsA = wsB := ws_eq hM.a hM.b fun i hi => by
            have hin : i < n := by rw [← HTF.out]; exact hi
            rw [← (HTWB.out).at_ i hi, ← hTb.at_ i hi, hcs i hin, decide_eq_true (Nat.zero_le _), Bool.true_and]
          subst hww
          have HM := hide hM
          generalize bs.map (!·) = gl at *
          have HCL : Hid (∀ W, Below w.heap.size w W → ∀ k, k < L → ∃ b off, av = some ⟨b, off, none⟩ ∧ W.cell? ⟨b, off + k * 3, none⟩ = some (.int .i64 (os.getD k .nul).K) ∧ W.cell? ⟨b, off + k * 3 + 1, none⟩ = some (.int .i64 (os.getD k .nul).O) ∧ W.cell? ⟨b, off + k * 3 + 2, none⟩ = some (.int .i64 (os.getD k .nul).N)) := fun W hW k hk => by
            obtain ⟨b, off, e1, e2⟩ := HVO.out (by omega)
            obtain ⟨f1, f2, f3⟩ := e2 k hk
            exact ⟨b, off, e1, (hW.cell (p := ⟨b, _, none⟩) (World.block_lt_of_cell? _ _ f1)).trans f1, (hW.cell (p := ⟨b, _, none⟩) (World.block_lt_of_cell? _ _ f2)).trans f2, (hW.cell (p := ⟨b, _, none⟩) (World.block_lt_of_cell? _ _ f3)).trans f3⟩
          clear hM hTb hcs HTWB HSB HK hk0 HVO HWO HPN HO HWH
          generalize wr = wr2 at *
          go_upto_region 23 with fail
          go_cut [19] (fun a wc => a = .int .i64 0 ∧ wc = wr2)
          case first =>
            go_wp2
            go_meet
            exact ⟨rfl, rfl⟩
          case rest =>
          obtain ⟨rfl, hwc⟩ := hcut
          subst hwc
          go_wp2_with fail
          go_loopw [9, 19] (fun av iv wr => WayRel w gb gwb gg n f t gl L av iv wr) (fun _ i _ => 200 - (intOf i).toNat)
          case atStart => exact ⟨ga, gwa, 0, wsA, by omega, by omega, rfl, rfl, HM.out⟩
          case round =>
            clear HM
            obtain ⟨ga2, gwa2, k, ws, hkL, hk2, rfl, rfl, hMr⟩ := hrel
            have HMr := hide hMr
            clear hMr
            by_cases hlt3 : k < L ∧ k < 200
            · obtain ⟨hl1, hl2⟩ := hlt3
              obtain ⟨b, off, rfl, f1, f2, f3⟩ := unhide HCL wr (HMr.out).bel k hl1
              generalize os.getD k .nul = o at *
              obtain ⟨K, O, N⟩ := o
              have hO := heap_alloc_new wr (.cells #[.int .i64 K, .int .i64 O, .int .i64 N] 39)
              have HM0 := hide ((HMr.out).below (alloc_below wr (.cells #[.int .i64 K, .int .i64 O, .int .i64 N] 39)))
              have hlI : (k : Int) < (L : Int) := by omega
              have hl3 : (k : Int) < 200 := by omega
              have HO0 := hide hO
              clear hO HMr
              go_upto_region 26 with fail
              go_cut [20] from 127 to 225 (fun a wc => a = .pointer (some ⟨wr.heap.size, 0, none⟩) ∧ wc = wr.alloc (.cells #[.int .i64 K, .int .i64 O, .int .i64 N] 39))
              case first =>
                go_wp2
                go_meet
                exact ⟨rfl, rfl⟩
              case rest =>
                obtain ⟨rfl, hwc⟩ := hcut
                subst hwc
                refine ‹∀ (a : Act) (w : World), Code.wp _ _ _ a w → _› _ _ ?_
                apply wp_seq_k
                intro KT hKT
                clear f1 f2 f3
                generalize wr.alloc (.cells #[.int .i64 K, .int .i64 O, .int .i64 N] 39) = W0 at *
                generalize wr.heap.size = gO at *
                have d0 : W0.cell? ⟨gO, 0, none⟩ = some (.int .i64 K) := cell_of_row W0 _ 0 _ _ _ HO0.out
                have d5 : W0.cell? ⟨gO, 2, none⟩ = some (.int .i64 N) := by rw [cell_of_row W0 _ 2 _ _ _ HO0.out]; rfl
                have HT0 := hide (unhide HTZ W0 (HM0.out).bel)
                go_cut [9] from 127 to 225 (fun av wc => WayMid w gb gwb gg n f t gl gO N av wc)
                case first =>
                  by_cases k1 : K = 1
                  · subst k1
                    cases hl : allF f 0 ws with
                    | nil =>
                      have H1 := hide ((HM0.out).takeNoA HT0.out hl)
                      have H2 := hide ((HM0.out).takeNoB HT0.out hl)
                      have HM5 := HM0
                      clear hl
                      go_wp2_with fail
                      refine (unhide H1).mono ?_
                      rintro e w4 ⟨rfl, hw4⟩
                      obtain rfl := hw4.symm
                      clear hw4
                      go_wp2_with fail
                      refine (unhide H2).mono ?_
                      rintro e w4 ⟨rfl, hw4⟩
                      obtain rfl := hw4.symm
                      clear hw4
                      go_wp2
                      go_meet
                      exact ⟨_, _, _, rfl, HM5.out, d5⟩
                    | cons q l =>
                      have H1 := hide ((HM0.out).takeA HT0.out hl)
                      have H2 : Hid (∀ W, Hid (Wm w W ga2 gwa2 gb gwb gg n f t (claimW f t ws (q : Int)) ws gl) → Ch 0 TU W0 W → Calls Tryd.prog 18 #[.pointer (some ⟨gb, 0, none⟩)] W fun e w' => e = .returned (.tuple #[.int .i64 (q : Int), .bool true]) ∧ Hid (Wm w w' ga2 gwa2 gb gwb gg n f t (claimW f t ws (q : Int)) (claimW f t ws (q : Int)) gl) ∧ Ch 0 TU W0 w') := fun W hm hc => ((hm.out).takeB (unhide HTZ W (hm.out).bel) hl).mono fun e w' ⟨e1, e2, e3⟩ => ⟨e1, e2, hc.trans e3⟩
                      have gqq : ((q : Int) != (q : Int)) = false := by simp
                      clear hl
                      go_wp2_with fail
                      refine (unhide H1).mono ?_
                      rintro e w4 ⟨rfl, HM4, hc4⟩
                      go_wp2_with fail
                      refine (unhide H2 w4 HM4 hc4).mono ?_
                      rintro e w5 ⟨rfl, HM5, hc5⟩
                      have d5 : w5.cell? ⟨gO, 2, none⟩ = some (.int .i64 N) := by rw [cell_of_row w5 _ 2 _ _ _ (hc5.cells HO0.out (by unfold TU; decide))]; rfl
                      go_wp2
                      go_meet
                      exact ⟨_, _, _, rfl, HM5.out, d5⟩
                  by_cases k2 : K = 2
                  · subst k2
                    by_cases hn : 0 ≤ N ∧ N ≤ ((freeN ws : Nat) : Int)
                    · obtain ⟨j, rfl⟩ : ∃ j : Nat, N = (j : Int) := ⟨N.toNat, by omega⟩
                      have H1 := hide ((HM0.out).allA HT0.out j (by omega))
                      have H2 : Hid (∀ W, Wm w W ga2 gwa2 gb gwb gg n f t (claimAll f t ws ((allF f 0 ws).take j)) ws gl → Ch 0 TU W0 W → Calls Tryd.prog 19 #[.pointer (some ⟨gb, 0, none⟩), .int .i64 (j : Int)] W fun e w' => ∃ v, e = .returned (.tuple #[v, .bool true]) ∧ Hid (Row w' W.heap.size 3 v (iV ((allF f 0 ws).take j)) ∧ Wm w w' ga2 gwa2 gb gwb gg n f t (claimAll f t ws ((allF f 0 ws).take j)) (claimAll f t ws ((allF f 0 ws).take j)) gl) ∧ Ch 0 TU W w') := fun W hm _ => hm.allB (unhide HTZ W hm.bel) j (by omega)
                      clear hn
                      go_wp2_with fail
                      refine (unhide H1).mono ?_
                      rintro e w4 ⟨v4, rfl, HM4, hc4⟩
                      have d4 : w4.cell? ⟨gO, 2, none⟩ = some (.int .i64 (j : Int)) := by rw [cell_of_row w4 _ 2 _ _ _ (hc4.cells HO0.out (by unfold TU; decide))]; rfl
                      go_wp2_with fail
                      refine (unhide H2 w4 (HM4.out).2 hc4).mono ?_
                      rintro e w5 ⟨v5, rfl, HM5', hc5⟩
                      have HS5 := hide (same_calls ((HM4.out).1.ch hc5 (by unfold TU; decide)) (HM5'.out).1)
                      have hc6 := hc4.trans hc5
                      go_wp2_with fail
                      refine (unhide HS5).mono ?_
                      rintro e w6 ⟨rfl, hb6⟩
                      have HM5 := hide ((HM5'.out).2.below hb6)
                      have d5 : w6.cell? ⟨gO, 2, none⟩ = some (.int .i64 (j : Int)) := by rw [cell_of_row w6 _ 2 _ _ _ ((hc6.trans (Ch.of_below hb6)).cells HO0.out (by unfold TU; decide))]; rfl
                      clear hb6 hc6 hc5 hc4 d4
                      go_wp2
                      go_meet
                      exact ⟨_, _, _, rfl, HM5.out, d5⟩
                    · have H1 := hide (takeAll_no (HM0.out).a N (by omega))
                      have H2 := hide (takeAll_no (HM0.out).b N (by omega))
                      have HS5 := hide (same_calls (xs := []) (Row.nil W0 0 3) (Row.nil W0 0 3))
                      clear hn
                      go_wp2_with fail
                      refine (unhide H1).mono ?_
                      rintro e w4 ⟨rfl, hw4⟩
                      obtain rfl := hw4.symm
                      clear hw4
                      go_wp2_with fail
                      refine (unhide H2).mono ?_
                      rintro e w4 ⟨rfl, hw4⟩
                      obtain rfl := hw4.symm
                      clear hw4
                      go_wp2_with fail
                      refine (unhide HS5).mono ?_
                      rintro e w6 ⟨rfl, hb6⟩
                      have HM5 := hide ((HM0.out).below hb6)
                      have d5' := (hb6.cell (p := ⟨gO, 2, none⟩) (World.block_lt_of_cell? _ _ d5)).trans d5
                      clear d5 hb6
                      have d5 := d5'
                      clear d5'
                      go_wp2
                      go_meet
                      exact ⟨_, _, _, rfl, HM5.out, d5⟩
                  by_cases k3 : K = 3
                  · subst k3
                    have HCA : Hid (∀ W, Below W0.heap.size W0 W → Calls Tryd.prog 20 #[.pointer (some ⟨ga2, 0, none⟩), .int .i64 N] W fun e w' => e = .returned (.bool (hasB f t ws N)) ∧ Hid (Wm w w' ga2 gwa2 gb gwb gg n f t (claimW f t ws N) ws gl) ∧ Ch 0 TU W0 w') := fun W hW => (((HM0.out).below hW).claimA N).mono fun e w' ⟨e1, e2, e3⟩ => ⟨e1, e2, (Ch.of_below hW).trans e3⟩
                    have HCB : Hid (∀ W, Hid (Wm w W ga2 gwa2 gb gwb gg n f t (claimW f t ws N) ws gl) → Ch 0 TU W0 W → Calls Tryd.prog 20 #[.pointer (some ⟨gb, 0, none⟩), .int .i64 N] W fun e w' => e = .returned (.bool (hasB f t ws N)) ∧ Hid (Wm w w' ga2 gwa2 gb gwb gg n f t (claimW f t ws N) (claimW f t ws N) gl) ∧ Ch 0 TU W0 w') := fun W hm hc => ((hm.out).claimB N).mono fun e w' ⟨e1, e2, e3⟩ => ⟨e1, e2, hc.trans e3⟩
                    have HSC : Hid (∀ W, Ch 0 TU W0 W → Ch 0 TU W0 W ∧ W.cell? ⟨gO, 2, none⟩ = some (.int .i64 N)) := fun W hW => ⟨hW, by rw [cell_of_row W _ 2 _ _ _ (hW.cells HO0.out (by unfold TU; decide))]; rfl⟩
                    generalize hasB f t ws N = bc at HCA HCB
                    have gcc : (bc != bc) = false := by cases bc <;> rfl
                    go_wp2_with fail
                    focus (go_region_held3 (fun W => Ch 0 TU W0 W ∧ W.cell? ⟨gO, 2, none⟩ = some (.int .i64 N))
                      ((refine unhide HSC _ ?_; repeat (first | assumption | exact Ch.refl _ _ _ | refine Ch.drew ?_)))
                      (first
                        | (go_at_call 20; with_reducible refine (unhide HCA _ (by first | assumption | exact (Below.refl _ _).drew)).mono ?_; rintro e w4 ⟨rfl, HM4, hc4⟩)
                        | (go_at_call 20; with_reducible refine (unhide HCB _ HM4 hc4).mono ?_; rintro e w5 ⟨rfl, HM5, hc5⟩)))
                    have d5 := (unhide HSC w5 hc5).2
                    go_wp2
                    go_meet
                    exact ⟨_, _, _, rfl, HM5.out, d5⟩
                  by_cases k4 : K = 4
                  · subst k4
                    have HCA : Hid (∀ W, Below W0.heap.size W0 W → Calls Tryd.prog 21 #[.pointer (some ⟨ga2, 0, none⟩), .int .i64 N] W fun e w' => e = .returned (.bool (giveB f t ws N)) ∧ Hid (Wm w w' ga2 gwa2 gb gwb gg n f t (giveW f t ws N) ws gl) ∧ Ch 0 TU W0 w') := fun W hW => (((HM0.out).below hW).giveA N).mono fun e w' ⟨e1, e2, e3⟩ => ⟨e1, e2, (Ch.of_below hW).trans e3⟩
                    have HCB : Hid (∀ W, Hid (Wm w W ga2 gwa2 gb gwb gg n f t (giveW f t ws N) ws gl) → Ch 0 TU W0 W → Calls Tryd.prog 21 #[.pointer (some ⟨gb, 0, none⟩), .int .i64 N] W fun e w' => e = .returned (.bool (giveB f t ws N)) ∧ Hid (Wm w w' ga2 gwa2 gb gwb gg n f t (giveW f t ws N) (giveW f t ws N) gl) ∧ Ch 0 TU W0 w') := fun W hm hc => ((hm.out).giveB N).mono fun e w' ⟨e1, e2, e3⟩ => ⟨e1, e2, hc.trans e3⟩
                    have HSC : Hid (∀ W, Ch 0 TU W0 W → Ch 0 TU W0 W ∧ W.cell? ⟨gO, 2, none⟩ = some (.int .i64 N)) := fun W hW => ⟨hW, by rw [cell_of_row W _ 2 _ _ _ (hW.cells HO0.out (by unfold TU; decide))]; rfl⟩
                    generalize giveB f t ws N = bc at HCA HCB
                    have gcc : (bc != bc) = false := by cases bc <;> rfl
                    go_wp2_with fail
                    focus (go_region_held3 (fun W => Ch 0 TU W0 W ∧ W.cell? ⟨gO, 2, none⟩ = some (.int .i64 N))
                      ((refine unhide HSC _ ?_; repeat (first | assumption | exact Ch.refl _ _ _ | refine Ch.drew ?_)))
                      (first
                        | (go_at_call 21; with_reducible refine (unhide HCA _ (by first | assumption | exact (Below.refl _ _).drew)).mono ?_; rintro e w4 ⟨rfl, HM4, hc4⟩)
                        | (go_at_call 21; with_reducible refine (unhide HCB _ HM4 hc4).mono ?_; rintro e w5 ⟨rfl, HM5, hc5⟩)))
                    have d5 := (unhide HSC w5 hc5).2
                    go_wp2
                    go_meet
                    exact ⟨_, _, _, rfl, HM5.out, d5⟩
                  by_cases k8 : K = 8
                  · subst k8
                    have H1 := hide ((HM0.out).copyA)
                    go_wp2_with fail
                    refine (unhide H1).mono ?_
                    rintro e w4 ⟨g3, gw3, rfl, HM5, hb4⟩
                    have d5' := (hb4.cell (p := ⟨gO, 2, none⟩) (World.block_lt_of_cell? _ _ d5)).trans d5
                    clear d5 hb4
                    have d5 := d5'
                    clear d5'
                    go_wp2
                    go_meet
                    exact ⟨_, _, _, rfl, HM5.out, d5⟩
                  · have b1 := eq_nat K 1 k1
                    have b2 := eq_nat K 2 k2
                    have b3 := eq_nat K 3 k3
                    have b4 := eq_nat K 4 k4
                    have b8 := eq_nat K 8 k8
                    clear k1 k2 k3 k4 k8
                    have HM5 := HM0
                    go_wp2
                    go_meet
                    exact ⟨_, _, _, rfl, HM5.out, d5⟩
                case rest =>
                  refine hKT _ _ ?_
                  obtain ⟨ga3, gwa3, ws3, rfl, hM5, d6⟩ := hcut
                  have HM5 := hide hM5
                  clear hM5 d0 d5 HT0 HM0 HO0
                  have HSS : Hid (∀ W, Below wc.heap.size wc W → Below wc.heap.size wc W ∧ W.cell? ⟨gO, 2, none⟩ = some (.int .i64 N)) := fun W hW => ⟨hW, (hW.cell (p := ⟨gO, 2, none⟩) (World.block_lt_of_cell? _ _ d6)).trans d6⟩
                  have HHA : Hid (∀ W, Below wc.heap.size wc W → Calls Tryd.prog 25 #[.pointer (some ⟨ga3, 0, none⟩), .int .i64 N] W fun e w' => e = .returned (.bool (hasB f t ws3 N)) ∧ Below wc.heap.size wc w') := fun W hW => (((HM5.out).below hW).hasA N).mono fun e w' ⟨e1, e2⟩ => ⟨e1, hW.trans (e2.mono hW.size)⟩
                  have HHB : Hid (∀ W, Below wc.heap.size wc W → Calls Tryd.prog 25 #[.pointer (some ⟨gb, 0, none⟩), .int .i64 N] W fun e w' => e = .returned (.bool (hasB f t ws3 N)) ∧ Below wc.heap.size wc w') := fun W hW => (((HM5.out).below hW).hasB N).mono fun e w' ⟨e1, e2⟩ => ⟨e1, hW.trans (e2.mono hW.size)⟩
                  generalize hasB f t ws3 N = bh at HHA HHB
                  have ghh : (bh != bh) = false := by cases bh <;> rfl
                  go_wp2_with fail
                  focus (go_region_held3 (fun W => Below wc.heap.size wc W ∧ W.cell? ⟨gO, 2, none⟩ = some (.int .i64 N))
                    ((refine unhide HSS _ ?_; repeat (first | assumption | exact Below.refl _ _ | refine Below.drew ?_)))
                    (first
                      | (go_at_call 25; with_reducible refine (unhide HHA _ (by first | assumption | exact (Below.refl _ _).drew)).mono ?_; rintro e w8 ⟨rfl, hb8⟩)
                      | (go_at_call 25; with_reducible refine (unhide HHB _ (by first | assumption | exact (Below.refl _ _).drew)).mono ?_; rintro e w9 ⟨rfl, hb9⟩)))
                  go_wp2
                  go_roundw
                  case rel =>
                    have HNX : WayRel w gb gwb gg n f t gl L (.pointer (some ⟨ga3, 0, none⟩)) (.int .i64 ((k : Int) + 1)) w9 := ⟨ga3, gwa3, k + 1, ws3, by omega, by omega, rfl, by congr 1, (HM5.out).below hb9⟩
                    first
                    | exact HNX
                    | exact ⟨_, _, _, HNX, rfl, rfl, rfl⟩
                    | (repeat apply Exists.intro
                       refine ⟨HNX, ?_⟩
                       repeat (first | rfl | refine ⟨rfl, ?_⟩))
                  case measure => simp [intOf]; omega
            · have hcond : ((L : Int) ≤ (k : Int)) ∨ ((k : Int) < (L : Int) ∧ (200 : Int) ≤ (k : Int)) := by omega
              have HTr := hide (unhide HTZ wr (HMr.out).bel)
              have HS0 := hide (started_calls HTr.out)
              rcases hcond with hcd | ⟨hcd, hcd2⟩
              all_goals (
                go_wp2_with fail
                refine (unhide HS0).mono ?_
                rintro e w5 ⟨rfl, hb5⟩
                have HM5 := hide ((HMr.out).below hb5)
                have HF1 := hide (free_calls (HM5.out).a)
                have HF2 := hide (free_calls (HM5.out).b)
                generalize freeN ws = fN at HF1 HF2
                have gff : ((fN : Int) == (fN : Int)) = true := by simp
                clear hb5
                go_wp2_with fail
                refine (unhide HF1).mono ?_
                rintro e w6 ⟨rfl, hw6⟩
                obtain rfl := hw6.symm
                clear hw6
                go_wp2_with fail
                refine (unhide HF2).mono ?_
                rintro e w6 ⟨rfl, hw6⟩
                obtain rfl := hw6.symm
                clear hw6
                have HL1 := hide (list_calls (HM5.out).a (unhide HTZ w5 (HM5.out).bel))
                go_wp2_with fail
                refine (unhide HL1).mono ?_
                rintro e w7 ⟨v7, rfl, hr7, hb7⟩
                have HM7 := hide ((HM5.out).below hb7)
                have HL2 := hide (list_calls (HM7.out).b (unhide HTZ w7 (HM7.out).bel))
                have HR7 := hide hr7
                clear hr7 hb7
                go_wp2_with fail
                refine (unhide HL2).mono ?_
                rintro e w8 ⟨v8, rfl, hr8, hb8⟩
                have HM8 := hide ((HM7.out).below hb8)
                have HS8 := hide (same_calls ((HR7.out).below hb8) hr8)
                clear hr8 hb8
                go_wp2_with fail
                refine (unhide HS8).mono ?_
                rintro e w9 ⟨rfl, hb9⟩
                go_wp2
                go_ret
                exact ⟨rfl, (HM8.out).bel.trans (hb9.mono (HM8.out).bel.size)⟩)
end Go.Proofs.YtifmfnkpogconaaDoor
