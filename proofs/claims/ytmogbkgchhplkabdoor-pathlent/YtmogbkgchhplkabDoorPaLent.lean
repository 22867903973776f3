/- PathLent, walked. -/
import Derived.Test.YtmogbkgchhplkabDoorPaLentA
namespace Go.Proofs.YtmogbkgchhplkabDoor
open Go.RowKit

set_option maxRecDepth 100000 in
set_option maxHeartbeats 8000000 in
theorem lent_walk {v : Value} {l : List ByteArray} (w : World) (hv : IsS w v l) (hM : Mx w) : Calls Tryd.prog 6 #[v] w fun e w' => e = .returned (.bool true) ∧ Below w.heap.size w w' := by
  have HT := hide (told_calls w hM)
  have HVS : Hid (∀ W, Below w.heap.size w W → IsS W v l) := fun W h => hv.below h
  have HMX : Hid (∀ W, Below w.heap.size w W → Mx W) := fun W h => hM.below h
  have HCU := hide (fun s W => cut_calls s W)
  have HCS : Hid (∀ s, (cutS s).size ≤ 2000) := cutS_le
  obtain ⟨va, vc, rfl, hvl, hvm, _, hvc⟩ := hv
  generalize hn : l.length = n at *
  have HN := hide hn
  have HTX : Hid (∀ k, k < n → ∃ gb go, va = some ⟨gb, go, none⟩ ∧ ∀ W, Below w.heap.size w W → W.cell? ⟨gb, go + k, none⟩ = some (.string (l.getD k ⟨#[]⟩))) := fun k hk => by
    obtain ⟨gb, go, e, h⟩ := hvc (by omega)
    refine ⟨gb, go, e, fun W hW => ?_⟩
    have h1 := h k (by omega)
    exact (hW.cell (p := ⟨gb, go + k, none⟩) (World.block_lt_of_cell? w _ h1)).trans h1
  clear hvc hn HVS hM HN
  go_enter Tryd.func6, Tryd.ntmps6
  go_wp2_with fail
  refine (unhide HT).mono ?_
  rintro e w1 ⟨rfl, hb1⟩
  have HL0 : Hid (Lz w w1 0 (.slice none 0 0) (.slice none 0 0)) := ⟨[], [], _, _, (Lp.nil w (Below.refl _ _)).below hb1⟩
  clear HT hb1
  go_wp2
  go_loopw [3, 4, 5] (fun lv wv tv wr => ∃ t c : Nat, t ≤ 2 ∧ c ≤ 40 * t ∧ tv = .int .i64 (t : Int) ∧ Hid (Lz w wr c lv wv)) (fun _ _ tv _ => 2 - (intOf tv).toNat)
  case atStart => exact ⟨0, 0, by omega, by omega, rfl, HL0⟩
  case round =>
    clear HL0
    obtain ⟨t, c0, ht, hc0, rfl, HL⟩ := hrel
    by_cases ht2 : t < 2
    · obtain ⟨tz, htz⟩ : ∃ tz : Nat, (2 : Int) - (t : Int) = (tz : Int) := ⟨2 - t, by omega⟩
      have htz2 : tz ≤ 2 := by omega
      have htI : (t : Int) < 2 := by omega
      go_wp2
      rename World => w2
      go_loopw [3, 4, 6] (fun lv wv iv wr => ∃ i c : Nat, i ≤ n ∧ i ≤ 20 ∧ c ≤ 40 * t + 2 * i ∧ iv = .int .i64 (i : Int) ∧ Hid (Lz w wr c lv wv)) (fun _ _ iv _ => 20 - (intOf iv).toNat)
      case atStart => exact ⟨0, c0, by omega, by omega, by omega, rfl, HL⟩
      case round =>
        clear HL
        obtain ⟨i, c1, hin, hi20, hc1, rfl, HL⟩ := hrel
        by_cases hlt : i < n
        · by_cases hl20 : i < 20
          · have hltI : (i : Int) < (n : Int) := by omega
            have hl20I : (i : Int) < 20 := by omega
            obtain ⟨gb, gq, rfl, hcx⟩ := unhide HTX i hlt
            have hbel : Below w.heap.size w wr := by obtain ⟨_, _, _, _, h⟩ := HL.out; exact h.bel
            have hci := hcx wr hbel
            obtain ⟨s, hs⟩ : ∃ s, cutS (l.getD i ⟨#[]⟩) = s := ⟨_, rfl⟩
            have hs2 : s.size ≤ 2000 := by rw [← hs]; exact unhide HCS _
            have HC1 : Hid (Calls Tryd.prog 7 #[.string (l.getD i ⟨#[]⟩)] wr fun e w' => e = .returned (.string s) ∧ w' = wr) := by rw [← hs]; exact unhide HCU _ wr
            have HRP := hide (rrparse2 s hs2 wr)
            clear hs hcx
            generalize l.getD i ⟨#[]⟩ = s0 at *
            go_wp2_with fail
            refine (unhide HC1).mono ?_
            rintro e w3 ⟨rfl, h3⟩
            obtain rfl := h3.symm
            go_wp2_with fail
            refine (unhide HRP).mono ?_
            rintro e w4 ⟨wa, wn, wc, x4, rfl, hr4, hb4⟩
            have HK0 : Hid (Lz w w4 c1 u3 u4 ∧ Row w4 w.heap.size 9 (.slice wa wn wc) (sV (namesOf s))) := by
              obtain ⟨us, ws, U, X, h⟩ := HL.out
              exact ⟨⟨us, ws, U, X, h.below hb4⟩, hr4.mono h.bel.size⟩
            clear HL HC1 HRP hr4 hb4 hci hbel
            go_wp2
            rename World => w5
            go_loopw [3, 4, 10] (fun lv wv' qv wr => ∃ q c : Nat, q ≤ tz ∧ c ≤ 40 * t + 2 * i + q ∧ qv = .int .i64 (q : Int) ∧ Hid (Lz w wr c lv wv' ∧ Row wr w.heap.size 9 (.slice wa wn wc) (sV (namesOf s)))) (fun _ _ qv _ => tz - (intOf qv).toNat)
            case atStart => exact ⟨0, c1, by omega, by omega, rfl, HK0⟩
            case round =>
              clear HK0
              obtain ⟨q, c2, hq, hc2, rfl, HK⟩ := hrel
              by_cases hqz : q < tz
              · have hbel : Below w.heap.size w wr := by obtain ⟨⟨_, _, _, _, h⟩, _⟩ := HK.out; exact h.bel
                have HPP := hide (pparse2 s hs2 wr (unhide HMX wr hbel))
                clear hbel
                go_wp2_with fail
                refine (unhide HPP).mono ?_
                rintro e w6 ⟨la, ln, lc, x6, y6, rfl, hr6, hb6⟩
                obtain ⟨⟨us, ws, U, X, hLp⟩, hwr⟩ := HK.out
                have hb7 := (Below.refl w6.heap.size w6).alloc (Nat.le_refl _) (.cells #[.slice la ln lc] 28)
                have HR7 := hide (row_below (row_below hLp.rl hb6) hb7)
                have hcn7 : (w6.alloc (.cells #[.slice la ln lc] 28)).cell? ⟨w6.heap.size, 0, none⟩ = some (.slice la ln lc) := by simp
                have hsz7 : w.heap.size ≤ (w6.alloc (.cells #[.slice la ln lc] 28)).heap.size := Nat.le_trans hLp.bel.size (Nat.le_trans hb6.size hb7.size)
                have hl7 : us.length ≤ 1000000 := by rw [hLp.lu]; omega
                have HFL : Hid (∀ v8 w8, Row w8 w.heap.size 28 v8 (us ++ [.slice la ln lc]) → (w6.alloc (.cells #[.slice la ln lc] 28)).grownBy w8 u3.ownBlock → (v8.ownBlock = u3.ownBlock ∨ v8.ownBlock = some (w6.alloc (.cells #[.slice la ln lc] 28)).heap.size) → Lp w w8 (c2 + 1) c2 v8 u4 (us ++ [.slice la ln lc]) ws (upd U c2 (.slice la ln lc)) (upd X c2 (namesOf s)) ∧ Row w8 w.heap.size 9 (.slice wa wn wc) (sV (namesOf s))) := fun v8 w8 ho hg hat => by
                  refine ⟨hLp.addL hb6 hr6 (namesOf_len s hs2) hb7 ho hg hat, ?_⟩
                  have h9 := row_below (row_below hwr hb6) hb7
                  exact h9.kept hg (h9.apart HR7.out (by decide))
                have hlw : ws.length ≤ 1000000 := by rw [hLp.lw]; omega
                clear hLp hwr hb7 hr6 hb6 HK HPP
                go_wp2_with (first
                  | (at_builtin; refine wpList_appL rfl (.tmp 54) (.tmp 56) rfl rfl HR7.out rfl hcn7 rfl hl7 hsz7 ?_; intro v8 w8 hr8 hg8 hat8
                     obtain ⟨hLp8, hwr8⟩ := unhide HFL v8 w8 hr8 hg8 hat8
                     have hb9 := (Below.refl w8.heap.size w8).alloc (Nat.le_refl _) (.cells #[.slice wa wn wc] 28)
                     have HR9 := hide (row_below hLp8.rw' hb9)
                     have hcn9 : (w8.alloc (.cells #[.slice wa wn wc] 28)).cell? ⟨w8.heap.size, 0, none⟩ = some (.slice wa wn wc) := by simp
                     have hsz9 : w.heap.size ≤ (w8.alloc (.cells #[.slice wa wn wc] 28)).heap.size := Nat.le_trans hLp8.bel.size hb9.size
                     have HFW : Hid (∀ v10 w10, Row w10 w.heap.size 28 v10 (ws ++ [.slice wa wn wc]) → (w8.alloc (.cells #[.slice wa wn wc] 28)).grownBy w10 u4.ownBlock → (v10.ownBlock = u4.ownBlock ∨ v10.ownBlock = some (w8.alloc (.cells #[.slice wa wn wc] 28)).heap.size) → Lz w w10 (c2 + 1) v8 v10 ∧ Row w10 w.heap.size 9 (.slice wa wn wc) (sV (namesOf s))) := fun v10 w10 ho hg hat => by
                       refine ⟨⟨_, _, _, _, hLp8.addW (by rw [upd_same]; exact hwr8) hb9 ho hg hat⟩, ?_⟩
                       have h9 := row_below hwr8 hb9
                       exact h9.kept hg (h9.apart HR9.out (by decide))
                     clear hr8 hg8 hat8 HFL HR7 hcn7 hl7 hsz7 hLp8 hwr8 hb9)
                  | (at_builtin; refine wpList_appL rfl (.tmp 58) (.tmp 60) rfl rfl HR9.out rfl hcn9 rfl hlw hsz9 ?_; intro v10 w10 hr10 hg10 hat10
                     have HK2 := hide (unhide HFW v10 w10 hr10 hg10 hat10)
                     clear hr10 hg10 hat10 HFW HR9 hcn9 hsz9 hlw))
                go_roundw
                case rel => exact ⟨q + 1, c2 + 1, by omega, by omega, by go_num, HK2⟩
                case measure => simp [intOf]; omega
              · have HK3 := hide HK.out.1
                clear HK
                go_wp2
                go_roundw
                case rel => exact ⟨i + 1, c2, by omega, by omega, by omega, by go_num, HK3⟩
                case measure => simp [intOf]; omega
          · go_wp2
            go_roundw
            case rel => exact ⟨t + 1, c1, by omega, by omega, by go_num, HL⟩
            case measure => simp [intOf]; omega
        · go_wp2
          go_roundw
          case rel => exact ⟨t + 1, c1, by omega, by omega, by go_num, HL⟩
          case measure => simp [intOf]; omega
    · have htI : ¬ (t : Int) < 2 := by omega
      have hc80 : c0 ≤ 80 := by omega
      have HSH : Hid (∃ la lc wa wc, u3 = .slice la c0 lc ∧ u4 = .slice wa c0 wc) := by
        obtain ⟨us, ws, U, X, hLp⟩ := HL.out
        obtain ⟨la, lc, e1⟩ := hLp.rl.shape
        obtain ⟨wa, wc, e2⟩ := hLp.rw'.shape
        rw [hLp.lu] at e1
        rw [hLp.lw] at e2
        exact ⟨la, lc, wa, wc, e1, e2⟩
      obtain ⟨la, lc, wa, wc, e1, e2⟩ := HSH.out
      subst e1 e2
      clear HSH
      obtain ⟨wz, hwz⟩ : ∃ wz, wz = wr := ⟨_, rfl⟩
      have HSM : Hid (∀ i, i < c0 → ∃ gl gw a1 n1 c1 a2 n2 c2, la = some ⟨gl, 0, none⟩ ∧ wa = some ⟨gw, 0, none⟩ ∧ c0 ≤ lc ∧ lc ≤ 9223372036854775807 ∧ c0 ≤ wc ∧ wc ≤ 9223372036854775807 ∧ (∀ W, Below wz.heap.size wz W → W.cell? ⟨gl, i, none⟩ = some (.slice a1 n1 c1) ∧ W.cell? ⟨gw, i, none⟩ = some (.slice a2 n2 c2)) ∧
          ∀ W, Below wz.heap.size wz W → Calls Tryd.prog 19 #[.slice a1 n1 c1, .slice a2 n2 c2] W fun e w' => e = .returned (.bool true) ∧ Below wz.heap.size wz w') := fun i hi => by
        rw [hwz]
        obtain ⟨us, ws, U, X, hLp⟩ := HL.out
        obtain ⟨gl, lc', e1, p1, p2, _, _⟩ := hLp.rl.head (by rw [hLp.lu]; omega)
        obtain ⟨gw, wc', e2, q1, q2, _, _⟩ := hLp.rw'.head (by rw [hLp.lw]; omega)
        rw [hLp.lu] at p1
        rw [hLp.lw] at q1
        injection e1 with f1 f2 f3
        injection e2 with g1 g2 g3
        subst f1 f3 g1 g3
        obtain ⟨u, hu1, hu2⟩ := hLp.wants i hi
        have hr := hLp.rows i hi
        have he := hLp.each i hi
        obtain ⟨a1, c1, s1⟩ := hr.shape
        obtain ⟨a2, c2, s2⟩ := hu2.shape
        rw [s1] at hr he
        rw [s2] at hu1 hu2
        have k1 : wr.cell? ⟨gl, i, none⟩ = some (.slice a1 (sV (X i)).length c1) := (hLp.rl.cellAt (by rw [hLp.lu]; exact hi)).trans he
        have k2 : wr.cell? ⟨gw, i, none⟩ = some (.slice a2 (sV (X i)).length c2) := (hLp.rw'.cellAt (by rw [hLp.lw]; exact hi)).trans hu1
        refine ⟨gl, gw, a1, _, c1, a2, _, c2, rfl, rfl, p1, p2, q1, q2, fun W hW => ⟨(hW.cell (p := ⟨gl, i, none⟩) (World.block_lt_of_cell? wr _ k1)).trans k1, (hW.cell (p := ⟨gw, i, none⟩) (World.block_lt_of_cell? wr _ k2)).trans k2⟩, fun W hW => ?_⟩
        have h9 := same_calls (hr.isS.below hW) (hu2.isS.below hW)
        rw [decide_eq_true rfl] at h9
        refine h9.mono ?_
        rintro e w' ⟨x1, x2⟩
        exact ⟨x1, hW.trans (x2.mono hW.size)⟩
      have HLB : Hid (∀ W, Below wz.heap.size wz W → Calls Tryd.prog 20 #[.slice la c0 lc] W fun e w' => e = .returned (.bool true) ∧ Below w.heap.size w w') := fun W hW => by
        rw [hwz] at hW
        obtain ⟨us, ws, U, X, hLp⟩ := HL.out
        have h8 := hLp.below hW
        refine (marked_lists ⟨us, ws, U, X, h8⟩ (by omega)).mono ?_
        rintro e w' ⟨x1, x2⟩
        exact ⟨x1, h8.bel.trans x2⟩
      have HWZ : Hid (Below wz.heap.size wz wr) := by rw [hwz]; exact Below.refl _ _
      clear HL hwz
      go_wp2
      go_loopw [14] (fun iv W => ∃ i : Nat, i ≤ c0 ∧ iv = .int .i64 (i : Int) ∧ Hid (Below wz.heap.size wz W)) (fun iv _ => c0 - (intOf iv).toNat)
      case atStart => exact ⟨0, by omega, rfl, HWZ⟩
      case round =>
        clear HWZ
        obtain ⟨i4, hi4, rfl, HB⟩ := hrel
        by_cases hlt4 : i4 < c0
        · obtain ⟨gl, gw, a1, n1, c1, a2, n2, c2, rfl, rfl, p1, p2, q1, q2, hcl, hsm⟩ := unhide HSM i4 hlt4
          have HCL := hide hcl
          have HS4 := hide hsm
          have hltI4 : (i4 : Int) < (c0 : Int) := by omega
          clear hcl hsm
          go_wp2_with fail
          focus (go_region_held3 (fun W => W.cell? ⟨gl, i4, none⟩ = some (.slice a1 n1 c1) ∧ W.cell? ⟨gw, i4, none⟩ = some (.slice a2 n2 c2))
            ((refine unhide HCL _ ?_; (repeat (first | assumption | exact HB.out | exact Below.refl _ _ | refine Below.drew ?_))))
            (first
              | (go_at_call 19; refine (unhide HS4 _ (by repeat (first | assumption | exact HB.out | exact Below.refl _ _ | refine Below.drew ?_))).mono ?_; rintro e w9 ⟨rfl, hb9⟩)))
          go_wp2
          go_roundw
          case rel => exact ⟨i4 + 1, by omega, by go_num, hb9⟩
          case measure => simp [intOf]; omega
        · have hltI4 : ¬ (i4 : Int) < (c0 : Int) := by omega
          have HM4 := hide (unhide HLB wr HB.out)
          clear HSM HLB HB
          go_wp2_with fail
          refine (unhide HM4).mono ?_
          rintro e w10 ⟨rfl, hb10⟩
          have HB10 := hide hb10
          clear HM4 hb10
          go_wp2
          rename World => w11
          go_loopw [15] (fun iv W => ∃ i : Nat, i ≤ n ∧ i ≤ 20 ∧ iv = .int .i64 (i : Int) ∧ Hid (Below w.heap.size w W)) (fun iv _ => 20 - (intOf iv).toNat)
          case atStart => exact ⟨0, by omega, by omega, rfl, HB10⟩
          case round =>
            clear HB10
            obtain ⟨i5, hi5, hi20, rfl, HB⟩ := hrel
            by_cases hlt5 : i5 < n
            · by_cases hl20 : i5 < 20
              · have hltI : (i5 : Int) < (n : Int) := by omega
                have hl20I : (i5 : Int) < 20 := by omega
                obtain ⟨gb, gq, rfl, hcx⟩ := unhide HTX i5 hlt5
                have hci := hcx wr HB.out
                obtain ⟨s, hs⟩ : ∃ s, cutS (l.getD i5 ⟨#[]⟩) = s := ⟨_, rfl⟩
                have hs2 : s.size ≤ 2000 := by rw [← hs]; exact unhide HCS _
                have HC1 : Hid (Calls Tryd.prog 7 #[.string (l.getD i5 ⟨#[]⟩)] wr fun e w' => e = .returned (.string s) ∧ w' = wr) := by rw [← hs]; exact unhide HCU _ wr
                have HP5 := hide (parses_calls s (by omega) wr (unhide HMX wr HB.out))
                clear hs hcx
                generalize l.getD i5 ⟨#[]⟩ = s0 at *
                go_wp2_with fail
                refine (unhide HC1).mono ?_
                rintro e w3 ⟨rfl, h3⟩
                obtain rfl := h3.symm
                go_wp2_with fail
                refine (unhide HP5).mono ?_
                rintro e w4 ⟨rfl, hb4⟩
                have HB4 := hide (HB.out.trans (hb4.mono HB.out.size))
                clear HB HP5 hb4 HC1
                go_wp2
                go_roundw
                case rel => exact ⟨i5 + 1, by omega, by omega, by go_num, HB4⟩
                case measure => simp [intOf]; omega
              · go_wp2
                go_ret
                exact ⟨rfl, HB.out⟩
            · go_wp2
              go_ret
              exact ⟨rfl, HB.out⟩
end Go.Proofs.YtmogbkgchhplkabDoor
