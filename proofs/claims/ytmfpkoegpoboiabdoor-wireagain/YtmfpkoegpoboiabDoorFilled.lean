/- filled of WireOwn. -/
import Derived.Test.YtmfpkoegpoboiabDoorLong3
import Derived.Deep.RegionHeld3
namespace Go.Proofs.YtmfpkoegpoboiabDoor
open Go.RowKit

theorem below_aft {w a b : World} (h1 : Below w.heap.size w a) (h2 : Below a.heap.size a b) : Below w.heap.size w b := h1.trans (h2.mono h1.size)
theorem below_grown {w a : World} (h : Below w.heap.size w a) : w.grownBy a none := ⟨h.os, h.tape, h.output, h.size, fun k hk _ => h.block k hk⟩
theorem grown_refl (w : World) (row : Option Nat) : w.grownBy w row := ⟨rfl, rfl, rfl, Nat.le_refl _, fun _ _ _ => rfl⟩
theorem grown_drew {a w : World} {row : Option Nat} (h : a.grownBy w row) : a.grownBy w.drew row := ⟨h.os, h.tape, h.output, h.size, h.block⟩
theorem grown_holds {a W : World} {row : Option Nat} {C : World → Prop} (H : Hid (∀ W, a.grownBy W row → C W)) (h : a.grownBy W row) : a.grownBy W row ∧ C W := ⟨h, unhide H W h⟩
theorem mv_val (i : Nat) : Value.int .u8 (1 + (i : Int) % 250) = mv i := by unfold mv mk; congr 1
set_option maxRecDepth 100000 in
set_option maxHeartbeats 4000000 in
theorem filled_calls {w : World} {B S gl n cl : Nat} {us : List Value} {U : Nat → Value} {L : Nat → Nat} {X : Nat → List Value} (hn : n ≤ 1000) (hus : us.length = n) (hU : ∀ k, k < n → us[k]? = some (U k)) (hL : ∀ k, k < n → (X k).length = L k) (hLm : ∀ k, k < n → L k ≤ 140737488355000)
    (hBS : B ≤ S) (hSw : S ≤ w.heap.size) (hl : Row w B 23 (.slice (some ⟨gl, 0, none⟩) n cl) us) (hR : Lines w B S 5 U X n) :
    Calls Tryd.prog 20 #[.slice (some ⟨gl, 0, none⟩) n cl] w fun e w' => ∃ vm ms, e = .returned vm ∧ ms.length = 3 * n ∧ Row w' w.heap.size 23 vm ms ∧ Row w' B 23 (.slice (some ⟨gl, 0, none⟩) n cl) us ∧ Lines w' B S 5 U (Rf L X n) n ∧ Long3 w' B S U L ms n ∧ Out B S w w' := by
  obtain ⟨i0, hi, hz0, hz1, hz2⟩ := info_parts info23
  have HUS := hide hus
  have HU := hide hU
  have HL := hide hL
  have HLM := hide hLm
  have hglw := (hl.lt gl rfl).2
  clear hus hU hL hLm
  go_enter Tryd.func20, Tryd.ntmps20
  go_wp2
  go_loopw [3] (fun iv wr => ∃ (i : Nat), i ≤ n ∧ iv = .int .i64 (i : Int) ∧ Row wr B 23 (.slice (some ⟨gl, 0, none⟩) n cl) us ∧ Lines wr B S 5 U (Rf L X i) n ∧ Out B S w wr) (fun i _ => n - (intOf i).toNat)
  case atStart => exact ⟨0, by omega, rfl, hl, hR.ext fun k hk => Rf_ge (by omega), Out.refl _ _ _⟩
  case round =>
    obtain ⟨i, hin, rfl, hl1, hR1, ho1⟩ := hrel
    by_cases hlt : i < n
    · have hri := hR1.row i hlt
      rw [Rf_ge (by omega)] at hri
      obtain ⟨m, hm⟩ : ∃ m, m = L i := ⟨_, rfl⟩
      have hxl := unhide HL i hlt
      have hmb := unhide HLM i hlt
      rw [← hm] at hxl hmb
      obtain ⟨a, c, hui⟩ := hri.shape
      rw [hxl] at hui
      have hcell : wr.cell? ⟨gl, i, none⟩ = some (.slice a m c) := by
        rw [hl1.cellAt (by rw [HUS.out]; exact hlt), unhide HU i hlt, hui]
      have HXL := hide hxl
      have HUI := hide hui
      have HM := hide hm
      clear hxl hui hm hri
      go_wp2
      go_loopw [4] (fun jv W => ∃ (j : Nat), j ≤ m ∧ jv = .int .i64 (j : Int) ∧ Row W B 23 (.slice (some ⟨gl, 0, none⟩) n cl) us ∧ Lines W B S 5 U (upd (Rf L X i) i (marked (mv i) j (X i))) n ∧ Out B S w W) (fun j _ => m - (intOf j).toNat)
      case atStart =>
        refine ⟨0, by omega, rfl, hl1, hR1.ext fun k hk => ?_, ho1⟩
        by_cases e : k = i
        · subst e; rw [upd_same, marked_zero, Rf_ge (by omega)]
        · rw [upd_other _ _ e]
      case round =>
        clear hcell hl1 hR1 ho1
        obtain ⟨j, hj, rfl, hl2, hR2, ho2⟩ := hrel
        have hcell : wr.cell? ⟨gl, i, none⟩ = some (.slice a m c) := by
          rw [hl2.cellAt (by rw [HUS.out]; exact hlt), unhide HU i hlt, HUI.out]
        by_cases hjm : j < m
        · have hri := hR2.row i hlt
          rw [upd_same, HUI.out] at hri
          have hlen : (marked (mv i) j (X i)).length = m := by rw [marked_len (by rw [HXL.out]; omega), HXL.out]
          obtain ⟨g, c2, hv, hc1, hc2, _, hgw⟩ := hri.head (by rw [hlen]; omega)
          rw [hlen] at hc1
          injection hv with e1 e2 e3
          subst e1 e3
          have hfr := hri.frozenAt j
          have hst := hri.set j (mv i)
          rw [marked_set (by rw [HXL.out]; exact hjm)] at hst
          have hold : wr.cell? ⟨g, j, none⟩ = (marked (mv i) j (X i))[j]? := hri.cellAt (by rw [hlen]; exact hjm)
          obtain ⟨old, hold2⟩ : ∃ old, (marked (mv i) j (X i))[j]? = some old := ⟨_, List.getElem?_eq_getElem (by rw [hlen]; exact hjm)⟩
          rw [hold2] at hold
          have HST := hide hst
          have HO2 := hide hold2
          clear hst hold2 hri hlen e2 hc2
          go_wp2
          go_roundw
          case rel =>
            rw [mv_val]
            have hu : (U i).ownBlock = some g := by rw [HUI.out]; rfl
            obtain ⟨hs1, hs2⟩ := HST.out
            have hs3 : wr.grownBy (wr.setCell ⟨g, j, none⟩ (mv i)) (U i).ownBlock := by rw [hu]; exact hs2
            have hap := hl2.apart (hR2.row i hlt) (by decide)
            refine ⟨j + 1, by omega, by go_num, hl2.kept hs3 hap, ?_, ho2.grown hs3 fun k hk => Or.inl ⟨((hR2.row i hlt).lt k hk).1, hR2.hi i hlt k hk⟩⟩
            refine (hR2.step hlt hs3 (ys := marked (mv i) (j + 1) (X i)) (by rw [HUI.out]; exact hs1)).ext fun k hk => ?_
            by_cases e : k = i
            · subst e; rw [upd_same, upd_same]
            · rw [upd_other _ _ e, upd_other _ _ e, upd_other _ _ e]
          case measure => simp [intOf]; omega
        · go_wp2
          go_roundw
          case rel =>
            refine ⟨i + 1, by omega, by go_num, hl2, hR2.ext fun k hk => ?_, ho2⟩
            by_cases e : k = i
            · subst e
              obtain rfl : j = m := by omega
              rw [upd_same, Rf_lt (by omega), ← HM.out, ← HXL.out, marked_all]
            · rw [upd_other _ _ e]
              by_cases e2 : k < i
              · rw [Rf_lt e2, Rf_lt (by omega)]
              · rw [Rf_ge e2, Rf_ge (by omega)]
          case measure => simp [intOf]; omega
    · obtain rfl : i = n := by omega
      go_wp2
      go_loopw [5, 6] (fun mr iv W => ∃ (k : Nat) (ms : List Value), k ≤ i ∧ iv = .int .i64 (k : Int) ∧ ms.length = 3 * k ∧ Row W w.heap.size 23 mr ms ∧ Row W B 23 (.slice (some ⟨gl, 0, none⟩) i cl) us ∧ Lines W B S 5 U (Rf L X i) i ∧ Long3 W B S U L ms k ∧ Out B S w W) (fun _ k _ => i - (intOf k).toNat)
      case atStart => exact ⟨0, [], by omega, rfl, rfl, Row.nil _ _ _, hl1, hR1, fun k hk => by omega, ho1⟩
      case round =>
        clear hl1 hR1 ho1
        obtain ⟨k, ms, hk, rfl, hms, hmr, hl2, hR2, hlg, ho2⟩ := hrel
        by_cases hlt2 : k < i
        · obtain ⟨m, hm⟩ : ∃ m, m = L k := ⟨_, rfl⟩
          have hmb := unhide HLM k hlt2
          rw [← hm] at hmb
          have hr0 := hR2.row k hlt2
          rw [Rf_lt hlt2, ← hm, ← longer_zero (mv k) (tv k)] at hr0
          obtain ⟨a, c, hui⟩ := hr0.shape
          rw [longer_len, Nat.add_zero] at hui
          have hcell : wr.cell? ⟨gl, k, none⟩ = some (.slice a m c) := by
            rw [hl2.cellAt (by rw [HUS.out]; exact hlt2), unhide HU k hlt2, hui]
          have hglr : gl < wr.heap.size := Nat.lt_of_lt_of_le hglw ho2.size
          have hne : some gl ≠ (U k).ownBlock := (hl2.apart hr0 (by decide)).resolve_left (by simp [Value.ownBlock])
          rw [hui] at hne
          have HS : Hid (∀ W, wr.grownBy W (Value.slice a m c).ownBlock → W.cell? ⟨gl, k, none⟩ = some (.slice a m c)) := fun W hW => hW.cell hcell hne
          have hBr : B ≤ wr.heap.size := Nat.le_trans hBS (Nat.le_trans hSw ho2.size)
          rw [hui] at hr0
          have HM := hide hm
          have HUI := hide hui
          have HR0 := hide hr0
          have HMS := hide hms
          clear hm hui hr0 hms
          have HT1 : Hid (∀ W : World, Calls Tryd.prog 35 #[.int .i64 (k : Int), .int .i64 1] W fun e w' => ∃ g c, e = .returned (.slice (some ⟨g, 0, none⟩) 1 c) ∧ IsB w' (.slice (some ⟨g, 0, none⟩) 1 c) (List.replicate 1 (tm k)) ∧ Below W.heap.size W w') := fun W => tail_calls k 1 W (by omega) (by decide) (by decide)
          clear hcell hin hlt
          go_wp2_with fail
          focus (go_region_held3 (fun W => wr.grownBy W (Value.slice a m c).ownBlock ∧ W.cell? ⟨gl, k, none⟩ = some (.slice a m c))
            ((refine grown_holds HS ?_; repeat (first | assumption | exact grown_refl _ _ | refine grown_drew ?_)))
            (first
              | (go_at_call 35; refine (unhide HT1 _).mono ?_; rintro e w1 ⟨g1, c1, rfl, hI1, hb1'⟩; have hb1 : Below wr.heap.size wr w1 := below_drew hb1'; have hr1 := (unhide HR0).grown (below_grown hb1); have hB1 : B ≤ w1.heap.size := Nat.le_trans hBr hb1.size; have hG1 := grown_below (grown_refl wr (Value.slice a m c).ownBlock) hb1)
              | (refine step_appSh (by rfl) _ _ (by rfl) (by rfl) hr1 (by rfl) hI1 (by rw [longer_len]; omega) hB1 ?_; intro v2 w2 hr2 hg2 hat2 hsh2; have hG2 := hG1.trans hg2)))
          obtain ⟨hG2, hL2⟩ := app_step hG1 hg2 (Or.inl rfl) hat2
          rw [mapRep, show Value.int .u8 (tm k) = tv k from rfl] at hr2 hsh2
          have hu2 := hsh2.longer hr1
          rw [longer_add, Nat.zero_add] at hr2
          have HT2 : Hid (∀ W : World, Calls Tryd.prog 35 #[.int .i64 (k : Int), .int .i64 2] W fun e w' => ∃ g c, e = .returned (.slice (some ⟨g, 0, none⟩) 2 c) ∧ IsB w' (.slice (some ⟨g, 0, none⟩) 2 c) (List.replicate 2 (tm k)) ∧ Below W.heap.size W w') := fun W => tail_calls k 2 W (by omega) (by decide) (by decide)
          clear hI1 hb1 hb1' hr1 hB1 hG1 hg2 hat2 hsh2 HR0
          go_wp2_with fail
          focus (go_region_held3 (fun W => wr.grownBy W (Value.slice a m c).ownBlock ∧ W.cell? ⟨gl, k, none⟩ = some (.slice a m c))
            ((refine grown_holds HS ?_; repeat (first | assumption | exact grown_refl _ _ | refine grown_drew ?_)))
            (first
              | (go_at_call 35; refine (unhide HT2 _).mono ?_; rintro e w3 ⟨g3, c3, rfl, hI3, hb3'⟩; have hb3 : Below w2.heap.size w2 w3 := below_drew hb3'; have hu3 := hu2.grown (below_grown hb3); have hr3 := hr2.grown (below_grown hb3); have hB3 : B ≤ w3.heap.size := Nat.le_trans hBr (Nat.le_trans hG2.size hb3.size); have hG3 := grown_below hG2 hb3)
              | (refine step_appSh (by rfl) _ _ (by rfl) (by rfl) hu3 (by rfl) hI3 (by rw [longer_len]; omega) hB3 ?_; intro v4 w4 hv4 hg4 hat4 hsh4; have hG4 := hG3.trans hg4)))
          obtain ⟨hG4, hL4⟩ := app_step hG3 hg4 (Or.inl rfl) hat4
          rw [mapRep, show Value.int .u8 (tm k) = tv k from rfl] at hv4 hsh4
          have hu4 := hsh4.longer hu3
          have hr4 := hsh4.longer hr3
          rw [longer_add, Nat.zero_add] at hv4
          clear hI3 hb3 hb3' hu3 hr3 hB3 hG3 hg4 hat4 hsh4 hG2 hu2 hr2
          have hcell4 := unhide HS w4 hG4
          obtain ⟨a1, c1, hs2⟩ := hr4.shape
          obtain ⟨a2, c2, hs4⟩ := hv4.shape
          rw [longer_len] at hs2 hs4
          subst hs2 hs4
          go_wp2_with fail
          go_loopw [9, 10] (fun g3 kv W => ∃ (q : Nat), q ≤ 70 ∧ kv = .int .i64 (q : Int) ∧ wr.grownBy W (Value.slice a m c).ownBlock ∧ Row W B 5 (.slice a m c) (longer (mv k) (tv k) m 0) ∧ Row W B 5 (.slice a1 (m + 1) c1) (longer (mv k) (tv k) m 1) ∧ Row W B 5 (.slice a2 (m + 2) c2) (longer (mv k) (tv k) m 2) ∧ Row W B 5 g3 (longer (mv k) (tv k) m q) ∧ Loc wr (.slice a m c) g3) (fun _ q _ => 70 - (intOf q).toNat)
          case atStart => exact ⟨0, by omega, rfl, hG4, hu4, hr4, hv4, hu4, Or.inl rfl⟩
          case round =>
            clear hG4 hu4 hr4 hv4 hcell4
            obtain ⟨q, hq, rfl, hG5, hu5, hr5, hv5, hw5, hL5⟩ := hrel
            by_cases hq70 : q < 70
            · go_wp2_with fail
              refine (unhide HT1 _).mono ?_
              rintro e w6 ⟨g6, c6, rfl, hI6, hb6⟩
              have hu6 := hu5.grown (below_grown hb6)
              have hr6 := hr5.grown (below_grown hb6)
              have hv6 := hv5.grown (below_grown hb6)
              have hw6 := hw5.grown (below_grown hb6)
              have hG6 := grown_below hG5 hb6
              have hB6 := Nat.le_trans hBr hG6.size
              clear hu5 hr5 hv5 hw5 hG5 hb6
              go_wp2_with (at_builtin; refine wpList_appSh rfl _ _ rfl rfl hw6 rfl hI6 (by rw [longer_len]; omega) hB6 ?_; intro v7 w7 hw7 hg7 hat7 hsh7)
              obtain ⟨hG7, hL7⟩ := app_step hG6 hg7 hL5 hat7
              rw [mapRep, show Value.int .u8 (tm k) = tv k from rfl] at hw7 hsh7
              have hu7 := hsh7.longer hu6
              have hr7 := hsh7.longer hr6
              have hv7 := hsh7.longer hv6
              rw [longer_add] at hw7
              refine ⟨⟨q + 1, by omega, by go_num, hG7, hu7, hr7, hv7, hw7, hL7⟩, ?_⟩
              simp [intOf]; omega
            · obtain ⟨a5, c5, hs5⟩ := hw5.shape
              rw [longer_len] at hs5
              subst hs5
              obtain ⟨m3, hm3⟩ : ∃ m3, m3 = m + q := ⟨_, rfl⟩
              rw [← hm3] at hw5 hL5 ⊢
              have hq3 : q = 70 := by omega
              have HQ := hide hq3
              rw [hq3] at hw5
              have HM3 := hide hm3
              have hap5 := hmr.apart (hR2.row k hlt2) (by decide)
              rw [HUI.out] at hap5
              have hmrG := hmr.kept hG5 hap5
              have hszG := hG5.size
              have hszO := ho2.size
              clear hq3 hm3
              go_wp2_with (at_builtin; refine wpList_append_own _ rfl _ _ 37 rfl w.heap.size 23 i0 (.slice none 0 0) 1 24 Tryd.underlying37 hi hz0 hz1 hz2 rfl (by decide) _ _ _ rfl (World.ownsRow.alloc hmrG _) ⟨wr.heap.size, 0, none⟩ 3 3 [.slice a1 (m + 1) c1, .slice a2 (m + 2) c2, .slice a5 m3 c5] rfl rfl (cell_three_new _ _ _ _ _) (by intro u hu; simp at hu; rcases hu with rfl | rfl | rfl <;> rfl) (by have := HMS.out; unfold maxLen; omega) (by have := HMS.out; omega) (by simp; omega) ?_; intro v8 w8 hw8 hg8 hnil8)
              have hG8 := (World.grownBy_alloc wr _ _).trans hg8
              have hkp : ∀ u xs, Row wr B 5 u xs → Row w8 B 5 u xs := fun u xs h => h.kept hG8 (h.apart hmrG (by decide))
              have hG5' := hG5
              rw [← HUI.out] at hG5'
              have hl8 : Row w8 B 23 (.slice (some ⟨gl, 0, none⟩) i cl) us := (hl2.kept hG5 (Or.inr hne)).kept hG8 (Or.inr fun e => by have := (hmrG.lt gl e.symm).1; omega)
              have hR8 : Lines wr B S 5 U (Rf L X i) i := by
                refine (hR2.step hlt2 hG5' (ys := longer (mv k) (tv k) m 0) (by rw [HUI.out]; exact hu5)).ext fun j hj => ?_
                by_cases e : j = k
                · subst e
                  rw [upd_same, longer_zero, Rf_lt hlt2, HM.out]
                · rw [upd_other _ _ e]
              have hlg8 := hlg.step hlt2 hR2 hG5'
              rw [← HUI.out] at hL2 hL4 hL5
              have hlg9 := (hlg8.add HMS.out (Nat.le_trans hSw hszO) (by rw [← HM.out]; exact hr5) (by rw [← HM.out]; exact hv5) (by rw [← HM.out]; exact hw5) hL2 hL4 hL5).lines hkp
              refine ⟨⟨k + 1, _, by omega, by go_num, by simp [HMS.out]; omega, ?_, hl8, ⟨fun j hj => hkp _ _ (hR8.row j hj), hR8.hi, hR8.apart⟩, hlg9, (ho2.grown hG5' fun j hj => Or.inl ⟨((hR2.row k hlt2).lt j hj).1, hR2.hi k hlt2 j hj⟩).grown hG8 fun j hj => Or.inr (hmrG.lt j hj).1⟩, ?_⟩
              · unfold Row
                rw [List.length_append]
                exact hw8
              · simp [intOf]; omega
        · go_wp2
          go_ret
          obtain rfl : k = i := by omega
          exact ⟨_, ms, rfl, hms, hmr, hl2, hR2, hlg, ho2⟩
end Go.Proofs.YtmfpkoegpoboiabDoor
