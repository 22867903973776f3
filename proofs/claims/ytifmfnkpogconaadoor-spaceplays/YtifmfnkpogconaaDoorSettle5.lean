/- Settle, the call. -/
import Derived.Test.YtifmfnkpogconaaDoorSettle4
namespace Go.Proofs.YtifmfnkpogconaaDoor
open Go.RowKit

set_option maxRecDepth 100000 in
set_option maxHeartbeats 4000000 in
theorem settle_some {w : World} {B gW m t n : Nat} {P : Nat → Pr} {U : Nat → Value} {X : Nat → List Nat} (h : Wd w B gW m P t n U X) (ht : t ≤ 1001) (hn0 : 0 < n) :
    Calls Tryd.prog 13 #[.pointer (some ⟨gW, 2, none⟩)] w fun e w' => e = .returned (.bool true) ∧ Ch B TI w w' := by
  obtain ⟨i0, hi, hz0, hz1, hz2⟩ := info_part infoL
  have HU := hide (untouched_calls h ht)
  have H := hide h
  have hn : n ≤ 1001 := by have := h.low.2.2; omega
  clear h
  go_enter Tryd.func13, Tryd.ntmps13
  go_wp2_with fail
  refine (unhide HU).mono ?_
  rintro e w0 ⟨rfl, hb0⟩
  have h := (unhide H).below hb0
  have HB0 := hide hb0
  have hsz0 := hb0.size
  obtain ⟨vS, vR, vL, vK, NN, h1, _, _, h4⟩ := h.blk
  obtain ⟨hg1, hg2, _⟩ := h.low
  obtain ⟨ls, k1, k2, k3⟩ := h4.l
  obtain ⟨gL, cL, rfl, q1, q2, hgL, hgLw⟩ := k2.head (by omega)
  rw [k1] at q1 k2 h1
  have HB : Hid (∀ W, Ch B TI w0 W → W.cell? ⟨gW, 2, none⟩ = some (.slice (some ⟨gL, 0, none⟩) n cL)) := fun W hW => by
    rw [cell_of_row W gW 2 _ _ _ (hW.cells h1 (by unfold TI; decide))]; rfl
  have HLS := hide k1
  have H9 := hide k3
  have HOK := hide h4.ok
  have hlines := h4.lines
  generalize hLL : (fun k => (X k).length) = L at *
  have HOKL : Hid (∀ k, k < n → L k ≤ 65536) := fun k hk => by rw [← hLL]; exact unhide HOK k hk
  have HXL : Hid (∀ k, k < n → (iV (X k)).length = L k) := fun k hk => by rw [← hLL, iV_len]
  generalize hXX : (fun k => iV (X k)) = XV at *
  have HXV : Hid (∀ k, k < n → (XV k).length = L k) := fun k hk => by rw [← hXX]; exact unhide HXL k hk
  clear h h1 k1 k3 h4 hLL hXX HXL HOK hb0
  go_wp2_with fail
  go_loopw [3] (fun iv wr => ∃ (i : Nat), i ≤ n ∧ iv = .int .i64 (i : Int) ∧ Row wr B 49 (.slice (some ⟨gL, 0, none⟩) n cL) ls ∧ Lines wr B w0.heap.size 3 U (Rq L XV i) n ∧ Ch B TI w0 wr) (fun i _ => n - (intOf i).toNat)
  case atStart => exact ⟨0, by omega, rfl, k2, hlines.ext fun k hk => Rq_ge (by omega), Ch.refl _ _ _⟩
  case round =>
    obtain ⟨i, hin, rfl, hl1, hR1, ho1⟩ := hrel
    have hcB := unhide HB wr ho1
    by_cases hlt : i < n
    · have hri := hR1.row i hlt
      rw [Rq_ge (by omega)] at hri
      obtain ⟨m, hm⟩ : ∃ m, m = L i := ⟨_, rfl⟩
      have hxl := unhide HXV i hlt
      have hmb := unhide HOKL i hlt
      rw [← hm] at hxl hmb
      obtain ⟨a, c, hui⟩ := hri.shape
      rw [hxl] at hui
      have hcell : wr.cell? ⟨gL, i, none⟩ = some (.slice a m c) := by
        rw [hl1.cellAt (by rw [HLS.out]; exact hlt), unhide H9 i hlt, hui]
      have HXL := hide hxl
      have HUI := hide hui
      have HMM := hide hm
      clear hxl hui hm hri
      go_wp2
      go_loopw [4] (fun jv W => ∃ (j : Nat), j ≤ m ∧ jv = .int .i64 (j : Int) ∧ Row W B 49 (.slice (some ⟨gL, 0, none⟩) n cL) ls ∧ Lines W B w0.heap.size 3 U (upd (Rq L XV i) i (marked (qv i) j (XV i))) n ∧ Ch B TI w0 W) (fun j _ => m - (intOf j).toNat)
      case atStart =>
        refine ⟨0, by omega, rfl, hl1, hR1.ext fun k hk => ?_, ho1⟩
        by_cases e : k = i
        · subst e; rw [upd_same, marked_zero, Rq_ge (by omega)]
        · rw [upd_other _ _ e]
      case round =>
        clear hcell hcB hl1 hR1 ho1
        obtain ⟨j, hj, rfl, hl2, hR2, ho2⟩ := hrel
        have hcB := unhide HB wr ho2
        have hcell : wr.cell? ⟨gL, i, none⟩ = some (.slice a m c) := by
          rw [hl2.cellAt (by rw [HLS.out]; exact hlt), unhide H9 i hlt, HUI.out]
        by_cases hjm : j < m
        · have hri := hR2.row i hlt
          rw [upd_same, HUI.out] at hri
          have hlen : (marked (qv i) j (XV i)).length = m := by rw [marked_len (by rw [HXL.out]; omega), HXL.out]
          obtain ⟨g, c2, hv, hc1, hc2, _, hgw⟩ := hri.head (by rw [hlen]; omega)
          rw [hlen] at hc1
          injection hv with e1 e2 e3
          subst e1 e3
          have hfr := hri.frozenAt j
          have hst := hri.set j (qv i)
          rw [marked_set (by rw [HXL.out]; exact hjm)] at hst
          have hold : wr.cell? ⟨g, j, none⟩ = (marked (qv i) j (XV i))[j]? := hri.cellAt (by rw [hlen]; exact hjm)
          obtain ⟨old, hold2⟩ : ∃ old, (marked (qv i) j (XV i))[j]? = some old := ⟨_, List.getElem?_eq_getElem (by rw [hlen]; exact hjm)⟩
          rw [hold2] at hold
          have HST := hide hst
          clear hst hold2 hri hlen e2 hc2
          go_wp2
          go_roundw
          case rel =>
            rw [show Value.int .i64 (-1 - (i : Int)) = qv i from rfl]
            have hu : (U i).ownBlock = some g := by rw [HUI.out]; rfl
            obtain ⟨hs1, hs2⟩ := HST.out
            have hs3 : wr.grownBy (wr.setCell ⟨g, j, none⟩ (qv i)) (U i).ownBlock := by rw [hu]; exact hs2
            have hap := hl2.apart (hR2.row i hlt) (by decide)
            refine ⟨j + 1, by omega, by go_num, hl2.kept hs3 hap, ?_, ho2.trans (Ch.of_row (hR2.row i hlt) (Nat.le_refl _) hs3 rfl)⟩
            refine (hR2.step hlt hs3 (ys := marked (qv i) (j + 1) (XV i)) (by rw [HUI.out]; exact hs1)).ext fun k hk => ?_
            by_cases e : k = i
            · subst e; rw [upd_same, upd_same]
            · rw [upd_other _ _ e, upd_other _ _ e, upd_other _ _ e]
          case measure => simp [intOf]; omega
        · go_wp2
          go_roundw
          case rel =>
            refine ⟨i + 1, by omega, by go_num, hl2, hR2.ext fun k hk => ?_, ho2⟩
            by_cases e : k = i
            · subst e
              obtain rfl : j = m := by omega
              rw [upd_same, Rq_lt (by omega), ← HMM.out, ← HXL.out, marked_all]
            · rw [upd_other _ _ e]
              by_cases e2 : k < i
              · rw [Rq_lt e2, Rq_lt (by omega)]
              · rw [Rq_ge e2, Rq_ge (by omega)]
          case measure => simp [intOf]; omega
    · obtain rfl : i = n := by omega
      go_wp2
      go_loopw [5, 6] (fun mr iv W => ∃ (k : Nat) (ms : List Value), k ≤ i ∧ iv = .int .i64 (k : Int) ∧ ms.length = k ∧ Row W w0.heap.size 49 mr ms ∧ Row W B 49 (.slice (some ⟨gL, 0, none⟩) i cL) ls ∧ Lines W B w0.heap.size 3 U (Rq L XV i) i ∧ Long1 W B w0.heap.size U L ms k ∧ Ch B TI w0 W) (fun _ k _ => i - (intOf k).toNat)
      case atStart => exact ⟨0, [], by omega, rfl, rfl, Row.nil _ _ _, hl1, hR1, fun k hk => by omega, ho1⟩
      case round =>
        clear hl1 hR1 ho1 hcB
        obtain ⟨k, ms, hk, rfl, hms, hmr, hl2, hR2, hlg, ho2⟩ := hrel
        have hcB := unhide HB wr ho2
        by_cases hlt2 : k < i
        · obtain ⟨m, hm⟩ : ∃ m, m = L k := ⟨_, rfl⟩
          have hmb := unhide HOKL k hlt2
          rw [← hm] at hmb
          have hr0 := hR2.row k hlt2
          rw [Rq_lt hlt2, ← hm, ← longer_zero (qv k) (qv k)] at hr0
          obtain ⟨a, c, hui⟩ := hr0.shape
          rw [longer_len, Nat.add_zero] at hui
          have hcell : wr.cell? ⟨gL, k, none⟩ = some (.slice a m c) := by
            rw [hl2.cellAt (by rw [HLS.out]; exact hlt2), unhide H9 k hlt2, hui]
          have hBr : B ≤ wr.heap.size := Nat.le_trans hg2 ho2.size
          rw [hui] at hr0
          have HMM := hide hm
          have HUI := hide hui
          have HMS := hide hms
          have hszO := ho2.size
          obtain ⟨z, hz⟩ : ∃ z, z = zq m := ⟨_, rfl⟩
          have HZ := hide hz
          have hzb : z ≤ 270 := by rw [hz]; unfold zq; omega
          have HMIN : Hid (min (m : Int) 200 + 70 = (z : Int)) := by show _ = _; rw [hz]; unfold zq; omega
          clear hm hui hms hlt hin hz
          go_wp2_with fail
          all_goals (
            go_loopw [7, 8] (fun gv nv W => ∃ (q : Nat), q ≤ z ∧ nv = .int .i64 ((z : Int) - (q : Int)) ∧ wr.grownBy W (Value.slice a m c).ownBlock ∧ Row W B 3 (.slice a m c) (longer (qv k) (qv k) m 0) ∧ Row W B 3 gv (longer (qv k) (qv k) m q) ∧ Loc wr (.slice a m c) gv) (fun g _ _ => m + z - sliceLen g)
            case atStart => exact ⟨0, by omega, by have := HMIN.out; congr 1; omega, grown_refl _ _, hr0, hr0, Or.inl rfl⟩
            case round =>
              clear hcell hcB hr0
              obtain ⟨q, hq, rfl, hG5, hu5, hw5, hL5⟩ := hrel
              obtain ⟨a5, c5, hs5⟩ := hw5.shape
              rw [longer_len] at hs5
              subst hs5
              have hszG := hG5.size
              by_cases hqz : q < z
              · have HU6 := hide (hu5.grown (World.grownBy_alloc wr (.cells #[qv k] 3) none))
                have HW6 := hide (hw5.grown (World.grownBy_alloc wr (.cells #[qv k] 3) none))
                have HG6 := hide (hG5.trans (World.grownBy_alloc wr (.cells #[qv k] 3) _))
                have HC6 := hide (cell_one_new wr (qv k) 3)
                unfold qv at HU6 HW6 HG6 HC6
                have hgt : (0 : Int) < (z : Int) - (q : Int) := by omega
                clear hu5 hw5
                go_wp2_with (at_builtin; refine wpList_appSh rfl _ _ rfl rfl (unhide HW6) rfl rfl (unhide HC6) (by intro u hu; simp at hu; subst hu; rfl) (by rw [longer_len]; omega) (by simp; omega) ?_; intro v7 w7 hw7 hg7 hat7 hsh7)
                obtain ⟨hG7, hL7⟩ := app_step HG6.out hg7 hL5 hat7
                have e7 : [Value.int .i64 (-1 - (k : Int))] = List.replicate 1 (qv k) := rfl
                rw [e7] at hw7 hsh7
                have hu7 := hsh7.longer HU6.out
                have hw8 : Row w7 B 3 v7 (longer (qv k) (qv k) m (q + 1)) := by rw [← longer_add]; exact hw7
                obtain ⟨a7, c7, hs7⟩ := hw8.shape
                rw [longer_len] at hs7
                subst hs7
                refine ⟨⟨q + 1, by omega, by congr 1; omega, hG7, hu7, hw8, hL7⟩, ?_⟩
                simp [sliceLen]; omega
              · obtain ⟨m3, hm3⟩ : ∃ m3, m3 = m + q := ⟨_, rfl⟩
                rw [← hm3] at hw5 hL5 ⊢
                have hq3 : q = z := by omega
                rw [hq3] at hw5
                have hle : ((z : Int) - (q : Int)) ≤ 0 := by omega
                have hm3b : m3 ≤ 100000 := by omega
                have HM3 := hide hm3
                have hap5 := hmr.apart (hR2.row k hlt2) (by decide)
                rw [HUI.out] at hap5
                have hmrG := hmr.kept hG5 hap5
                clear hq3 hm3
                go_wp2_with (at_builtin; refine wpList_append_own _ rfl _ _ 30 rfl w0.heap.size 49 i0 (.slice none 0 0) 1 24 Tryd.underlying30 hi hz0 hz1 hz2 rfl (by decide) _ _ _ rfl (World.ownsRow.alloc hmrG _) ⟨wr.heap.size, 0, none⟩ 1 1 [.slice a5 m3 c5] rfl rfl (cell_one_new _ _ _) (by intro u hu; simp at hu; subst hu; rfl) (by have := HMS.out; unfold maxLen; omega) (by have := HMS.out; omega) (by simp; omega) ?_; intro v8 w8 hw8 hg8 hnil8)
                have hG8 := (World.grownBy_alloc wr _ _).trans hg8
                have hkp : ∀ u xs, Row wr B 3 u xs → Row w8 B 3 u xs := fun u xs h => h.kept hG8 (h.apart hmrG (by decide))
                have hG5' := hG5
                rw [← HUI.out] at hG5'
                have hap6 := hl2.apart (hR2.row k hlt2) (by decide)
                have hl8 : Row w8 B 49 (.slice (some ⟨gL, 0, none⟩) i cL) ls := (hl2.kept hG5' hap6).kept hG8 (Or.inr fun e => by have := (hmrG.lt gL e.symm).1; omega)
                have hR8 : Lines wr B w0.heap.size 3 U (Rq L XV i) i := by
                  refine (hR2.step hlt2 hG5' (ys := longer (qv k) (qv k) m 0) (by rw [HUI.out]; exact hu5)).ext fun j hj => ?_
                  by_cases e : j = k
                  · subst e
                    rw [upd_same, longer_zero, Rq_lt hlt2, HMM.out]
                  · rw [upd_other _ _ e]
                have hlg8 := hlg.step hlt2 hR2 hG5'
                rw [← HUI.out] at hL5
                have hlg9 := (hlg8.add HMS.out hszO (by rw [← HMM.out, ← HZ.out]; exact hw5) hL5).lines hkp
                refine ⟨⟨k + 1, _, by omega, by go_num, by simp [HMS.out], ?_, hl8, ⟨fun j hj => hkp _ _ (hR8.row j hj), hR8.hi, hR8.apart⟩, hlg9, (ho2.trans (Ch.of_row (hR2.row k hlt2) (Nat.le_refl _) hG5' rfl)).grown_new hG8 fun j hj => (hmrG.lt j hj).1⟩, ?_⟩
                · unfold Row
                  rw [List.length_append]
                  exact hw8
                · simp [intOf]; omega)
        · obtain rfl : k = i := by omega
          obtain ⟨gm, cm, rfl, hcm, hcm2, _, _⟩ := hmr.head (by omega)
          rw [hms] at hcm hmr ⊢
          have HF : Hid (∀ j, j < k → ∃ g c g' c', wr.cell? ⟨gm, j, none⟩ = some (.slice (some ⟨g', 0, none⟩) (L j + zq (L j)) c') ∧ L j + zq (L j) ≤ c' ∧ c' ≤ 9223372036854775807 ∧ wr.cell? ⟨gL, j, none⟩ = some (.slice g (L j) c) ∧ (∀ q, q < L j + zq (L j) → wr.cell? ⟨g', q, none⟩ = some (qv j)) ∧ (0 < L j → ∃ g2, g = some ⟨g2, 0, none⟩ ∧ L j ≤ c ∧ c ≤ 9223372036854775807 ∧ ∀ q, q < L j → wr.cell? ⟨g2, q, none⟩ = some (qv j))) := fun j hj => by
            have hr := hR2.row j hj
            rw [Rq_lt hj] at hr
            obtain ⟨u, hu, hru, _⟩ := hlg j hj
            obtain ⟨a, c, hs⟩ := hr.shape
            rw [List.length_replicate] at hs
            obtain ⟨g', c', hs', s1, s2, _, _⟩ := hru.head (by rw [longer_len]; unfold zq; omega)
            rw [longer_len] at hs' s1
            refine ⟨a, c, g', c', ?_, s1, s2, ?_, fun q hq => ?_, fun hp => ?_⟩
            · rw [hmr.cellAt (by rw [hms]; exact hj), hu, hs']
            · rw [hl2.cellAt (by rw [HLS.out]; exact hj), unhide H9 j hj, hs]
            · rw [hs'] at hru
              rw [hru.cellAt (by rw [longer_len]; exact hq), longer_at _ _ hq]
              simp
            · obtain ⟨g2, c2, hv, t1, t2, _, _⟩ := hr.head (by rw [List.length_replicate]; exact hp)
              rw [hs, List.length_replicate] at hv
              rw [List.length_replicate] at t1
              injection hv with e1 _ e3
              subst e1 e3
              rw [hs] at hr
              refine ⟨g2, rfl, t1, t2, fun q hq => ?_⟩
              rw [hr.cellAt (by rw [List.length_replicate]; exact hq), List.getElem?_replicate, if_pos hq]
          have hcB := unhide HB wr ho2
          have HCH : Hid (Ch B TI w wr) := (Ch.of_below HB0.out).trans ho2
          clear hmr hl2 hR2 hlg ho2 hlines k2
          go_wp2
          go_loop [9] (fun iv => ∃ (j : Nat), j ≤ k ∧ iv = .int .i64 (j : Int)) (fun j => k - (intOf j).toNat)
          case atStart => exact ⟨0, by omega, rfl⟩
          case round =>
            obtain ⟨j, hj, rfl⟩ := hrel
            by_cases hjk : j < k
            · obtain ⟨gq, cq, g', c', f1, f2, f3, f4, f5, f6⟩ := unhide HF j hjk
              have hLj := unhide HOKL j hjk
              have hzj : zq (L j) ≤ 270 := by unfold zq; omega
              generalize zq (L j) = z at *
              generalize L j = m at *
              obtain ⟨y, hy⟩ : ∃ y, y = m + z := ⟨_, rfl⟩
              rw [← hy] at f1 f2 f5
              have hyb : y ≤ 100000 := by omega
              have hmy : m ≤ y := by omega
              have F5 := hide f5
              have F6 := hide f6
              clear f5 f6 hy hzj
              go_wp2
              go_loop [10] (fun iv => ∃ (c : Nat), c ≤ y ∧ iv = .int .i64 (c : Int)) (fun c => y - (intOf c).toNat)
              case atStart => exact ⟨0, by omega, rfl⟩
              case round =>
                obtain ⟨c, hc, rfl⟩ := hrel
                by_cases hcy : c < y
                · have e1 := unhide F5 c hcy
                  unfold qv at e1
                  have g1 : (((-1 : Int) - (j : Int)) != (-1 - (j : Int))) = false := by simp
                  by_cases hcm3 : c < m
                  · obtain ⟨g2, rfl, t1, t2, t3⟩ := unhide F6 (by omega)
                    have e2 := t3 c hcm3
                    unfold qv at e2
                    clear t3
                    go_wp2
                    exact ⟨⟨c + 1, by omega, by go_num⟩, by simp [intOf]; omega⟩
                  · go_wp2
                    exact ⟨⟨c + 1, by omega, by go_num⟩, by simp [intOf]; omega⟩
                · go_wp2
                  exact ⟨⟨j + 1, by omega, by go_num⟩, by simp [intOf]; omega⟩
            · go_wp2
              go_ret
              exact ⟨rfl, HCH.out⟩
set_option maxRecDepth 100000 in
set_option maxHeartbeats 4000000 in
theorem settle_none {w : World} {B gW m t : Nat} {P : Nat → Pr} {U : Nat → Value} {X : Nat → List Nat} (h : Wd w B gW m P t 0 U X) (ht : t ≤ 1001) :
    Calls Tryd.prog 13 #[.pointer (some ⟨gW, 2, none⟩)] w fun e w' => e = .returned (.bool true) ∧ Ch B TI w w' := by
  have HU := hide (untouched_calls h ht)
  have H := hide h
  clear h
  go_enter Tryd.func13, Tryd.ntmps13
  go_wp2_with fail
  refine (unhide HU).mono ?_
  rintro e w0 ⟨rfl, hb0⟩
  obtain ⟨vS, vR, vL, vK, NN, h1, _, _, h4⟩ := ((unhide H).below hb0).blk
  obtain ⟨ls, k1, k2, k3⟩ := h4.l
  obtain ⟨aL, cL, hvL⟩ := k2.shape
  rw [k1] at hvL
  subst hvL
  have hcB : w0.cell? ⟨gW, 2, none⟩ = some (.slice aL 0 cL) := by rw [cell_of_row w0 gW 2 _ _ _ h1]; rfl
  clear h1 h4 k1 k2 k3
  go_wp2_with fail
  go_loop [3] (fun iv => iv = .int .i64 0) (fun _ => 0)
  case atStart => rfl
  case round =>
    subst hrel
    go_wp2
    go_loop [5, 6] (fun mr iv => mr = .slice none 0 0 ∧ iv = .int .i64 0) (fun _ _ => 0)
    case atStart => exact ⟨rfl, rfl⟩
    case round =>
      obtain ⟨rfl, rfl⟩ := hrel
      go_wp2
      go_loop [9] (fun iv => iv = .int .i64 0) (fun _ => 0)
      case atStart => rfl
      case round =>
        subst hrel
        go_wp2
        go_ret
        exact ⟨rfl, Ch.of_below hb0⟩
theorem settle_calls {w : World} {B gW m t n : Nat} {P : Nat → Pr} {U : Nat → Value} {X : Nat → List Nat} (h : Wd w B gW m P t n U X) (ht : t ≤ 1001) :
    Calls Tryd.prog 13 #[.pointer (some ⟨gW, 2, none⟩)] w fun e w' => e = .returned (.bool true) ∧ Ch B TI w w' := by
  by_cases hn : 0 < n
  · exact settle_some h ht hn
  · obtain rfl : n = 0 := by omega
    exact settle_none h ht
/-- Behind Settle the spaces stand as they stood. -/
theorem Wd.settled {w w' : World} {B gW m t n : Nat} {P : Nat → Pr} {U : Nat → Value} {X : Nat → List Nat} (h : Wd w B gW m P t n U X) (hc : Ch B TI w w') : ∃ vS vR vL vK, ∃ N : Nat, w'.heap[gW]? = some (.cells #[vS, vR, vL, vK, .int .i64 (N : Int)] 34 (0, 0)) ∧ Prs w' B vS vR m P := by
  obtain ⟨vS, vR, vL, vK, N, h1, _, h3, _⟩ := h.blk
  exact ⟨vS, vR, vL, vK, N, hc.cells h1 (by unfold TI; decide), h3.ch hc (by unfold TI; decide) (by unfold TI; decide) (by unfold TI; decide) (by unfold TI; decide) (by unfold TI; decide) (by unfold TI; decide)⟩
end Go.Proofs.YtifmfnkpogconaaDoor
