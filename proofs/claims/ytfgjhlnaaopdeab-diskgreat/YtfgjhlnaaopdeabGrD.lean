/- DiskGreat, walked. -/
import Derived.Test.YtfgjhlnaaopdeabGrE
namespace Go.Proofs.Ytfgjhlnaaopdeab
open Go.RowKit Go.Maps

set_option maxRecDepth 100000 in
set_option maxHeartbeats 4000000 in
theorem great_walk {w : World} (x y z u : Int) :
    Calls Try.prog 8 #[.int .i64 x, .int .i64 y, .int .i64 z, .int .i64 u] w fun e w' => e = .returned (.bool true) ∧ Below w.heap.size w w' := by
  have hx := modN_lt x (m := 1999) (by decide)
  have HMX := hide (fun W => mod_calls (w := W) (x := x) (m := 1999) (by decide) (by decide))
  generalize modN x 1999 = s at *
  obtain ⟨n, hn⟩ : ∃ n : Nat, 2 + (s : Int) = (n : Int) := ⟨2 + s, by omega⟩
  have hn2 : 2 ≤ n := by omega
  have hn6 : n ≤ 2000 := by omega
  clear hx
  obtain ⟨q, hq⟩ : ∃ q : Nat, 30000 / n = q := ⟨_, rfl⟩
  have hq1 : 1 ≤ q := by rw [← hq]; exact (Nat.le_div_iff_mul_le (by omega)).2 (by omega)
  have hq2 : (30000 : Int).tdiv (n : Int) = (q : Int) := by rw [Int.tdiv_eq_ediv_of_nonneg (by omega), ← hq]; simp
  have hq3 : (30000 : Int) / (n : Int) = (q : Int) := by rw [← hq]; simp
  have hqn : q * n ≤ 30000 := by rw [← hq]; exact Nat.div_mul_le_self _ _
  have hq5 : q ≤ 15000 := by rw [← hq]; exact Nat.le_trans (Nat.div_le_div_left hn2 (by decide)) (by decide)
  clear hq
  obtain ⟨m, hm⟩ : ∃ m : Nat, min (2000 : Int) (q : Int) = (m : Int) := ⟨min 2000 q, by omega⟩
  have hm1 : 1 ≤ m := by omega
  have hm2 : m ≤ 2000 := by omega
  have hmq : m ≤ q := by omega
  have hy := modN_lt y (m := m) (by omega)
  have HMY := hide (fun W => mod_calls (w := W) (x := y) (m := m) (by omega) (by omega))
  generalize modN y m = s2 at *
  obtain ⟨t, ht⟩ : ∃ t : Nat, 1 + (s2 : Int) = (t : Int) := ⟨1 + s2, by omega⟩
  have ht1 : 1 ≤ t := by omega
  have ht2 : t ≤ 2000 := by omega
  have htn : t * n ≤ 30000 := Nat.le_trans (Nat.mul_le_mul_right n (show t ≤ q by omega)) hqn
  have HTN := hide htn
  clear hqn hmq hy htn
  have HNEW := hide (dka_new (Dka.nil (A := fun b => b < w.heap.size) (w := w) (fun _ h => h) 0 (fun _ => 0) (fun _ => 0) (fun _ => zeroD 2)) hn2 (show n ≤ 65536 by omega))
  go_enter Try.func8, Try.ntmps8
  go_wp2_with fail
  refine (unhide HMX _).mono ?_
  rintro e w1 ⟨rfl, hw1⟩
  obtain rfl := hw1.symm
  go_wp2_with fail
  refine (unhide HMY _).mono ?_
  rintro e w1 ⟨rfl, hw1⟩
  obtain rfl := hw1.symm
  go_wp2_with fail
  refine (unhide HNEW).mono ?_
  rintro e w1 ⟨p, rfl, ⟨gl, hD1⟩, hb1⟩
  have HG0 : Hid (∀ W gh, Below w1.heap.size w1 W → Arr W gh 3 (cellsH n (fun _ => 0)) → w1.heap.size ≤ gh → Ga w W 0 n p gh (hadN n t 1 0) (hadN n t 1 0)) := fun W gh hb hA hg => by
    rw [hadN_first]
    exact ⟨⟨_, _, (hD1.below hb).congr (fun k hk => by rw [show k = 0 by omega, updF_same]) (fun _ _ => rfl) (fun k hk => by rw [show k = 0 by omega, updF_same]), Gr.zero n⟩, hA, Nat.le_trans hb1.size hg⟩
  have HZ : Hid ((madeCells (Value.int .i64 0).cells (n * 1)).toList = cellsH n (fun _ => 0)) := by
    have h : (Value.int .i64 0).cells = #[.int .i64 0] := rfl
    rw [h, Nat.mul_one, toList_madeCells_one]
    apply List.ext_getElem
    · simp [cellsH]
    · intro k h1 h2; simp [cellsH]
  obtain ⟨i0, hi, hz0, hz1, hz2⟩ := info_parts infoInt
  clear HNEW HMX HMY hD1 hb1
  go_wp2_with (at_make; refine wpList_make_full _ rfl _ _ 40 rfl w1.heap.size 3 i0 (.int .i64 0) 1 Try.underlying40 hi hz0 hz1 _ _ _ _ n rfl rfl rfl rfl (by rw [hz2]; omega) (by unfold maxLen; omega) (Nat.le_refl _) ?_; intro w2 hr2 hg2)
  have HA2 : Hid (Ga w w2 0 n p w1.heap.size (hadN n t 1 0) (hadN n t 1 0)) := by
    rw [HZ.out] at hr2
    exact unhide HG0 w2 _ (below_none hg2) (arr_full hr2).1 (Nat.le_refl _)
  clear hr2 hg2 HG0 HZ hz0 hz1 hz2 hi
  generalize w1.heap.size = gh at *
  go_loopw [13] (fun jv wr => ∃ j : Nat, 1 ≤ j ∧ j ≤ t + 1 ∧ jv = .int .i64 (j : Int) ∧ Hid (j ≤ t → Ga w wr ((j - 1) * n) n p gh (hadN n t j 0) (hadN n t j 0)) ∧ Hid (j = t + 1 → Ga w wr (t * n) n p gh (hadN n t t n) (hadN n t t n))) (fun jv _ => t + 1 - (intOf jv).toNat)
  case atStart => exact ⟨1, by omega, by omega, rfl, fun _ => by rw [Nat.sub_self, Nat.zero_mul]; exact HA2.out, fun h => by omega⟩
  case round =>
    clear HA2
    obtain ⟨j, hj1, hjt, rfl, HJ1, HJ2⟩ := hrel
    by_cases hlt : j ≤ t
    · have HJ := hide (unhide HJ1 hlt)
      clear HJ1 HJ2
      go_wp2
      rename World => w3
      go_loopw [14] (fun iv wr => ∃ i : Nat, i ≤ n ∧ iv = .int .i64 (i : Int) ∧ Hid (Ga w wr ((j - 1) * n + i) n p gh (hadN n t j i) (hadN n t j i))) (fun iv _ => n - (intOf iv).toNat)
      case atStart => exact ⟨0, by omega, rfl, HJ⟩
      case round =>
        clear HJ
        obtain ⟨i, hin, rfl, HI⟩ := hrel
        by_cases hil : i < n
        · obtain ⟨r5, h5⟩ : ∃ r, i % 5 = r := ⟨_, rfl⟩
          obtain ⟨r3, h3⟩ : ∃ r, i % 3 = r := ⟨_, rfl⟩
          have h5t : (i : Int).tmod 5 = (r5 : Int) := by rw [Int.tmod_eq_emod_of_nonneg (by omega)]; omega
          have h3t : (i : Int).tmod 3 = (r3 : Int) := by rw [Int.tmod_eq_emod_of_nonneg (by omega)]; omega
          have h5e : (i : Int) % 5 = (r5 : Int) := by omega
          have h3e : (i : Int) % 3 = (r3 : Int) := by omega
          have HSK : Hid ((r5 = 4 ∨ r3 = 2 ∧ j = t) → Ga w wr ((j - 1) * n + (i + 1)) n p gh (hadN n t j (i + 1)) (hadN n t j (i + 1))) := fun h => by
            rw [hadN_skip (by rw [h5, h3]; exact h)]
            exact HI.out.mono (by omega)
          have HWR : Hid (¬ (r5 = 4 ∨ r3 = 2 ∧ j = t) → hadN n t j i i + 1 = j ∧ updF (hadN n t j i) i j = hadN n t j (i + 1)) := fun h =>
            ⟨hadN_at hil hj1 (by rw [h5, h3]; exact h), hadN_write hil (by rw [h5, h3]; exact h)⟩
          clear h5 h3
          by_cases c5 : r5 = 4
          · have HN := hide (unhide HSK (Or.inl c5))
            have c5i : (r5 : Int) = 4 := by omega
            clear HSK HWR HI c5
            go_wp2
            go_roundw
            case rel => exact ⟨i + 1, by omega, by go_num, HN⟩
            case measure => simp [intOf]; omega
          · have c5i : ¬ (r5 : Int) = 4 := by omega
            have d5 : decide ((r5 : Int) = 4) = false := by simpa using c5i
            by_cases c3 : r3 = 2 ∧ j = t
            · have HN := hide (unhide HSK (Or.inr c3))
              have c3i : (r3 : Int) = 2 := by omega
              obtain ⟨_, c3j⟩ := c3
              clear HSK HWR HI
              subst c3j
              go_wp2
              go_roundw
              case rel => exact ⟨i + 1, by omega, by go_num, HN⟩
              case measure => simp [intOf]; omega
            · obtain ⟨hd1, hd2⟩ := unhide HWR (fun h => h.elim c5 c3)
              have c3i : (r3 : Int) = 2 → ¬ (j : Int) = (t : Int) := fun h h2 => c3 ⟨by omega, by omega⟩
              have hcl := HI.out.cell hil
              have hfz := HI.out.had.frozen i
              have HS : Hid (Ga w (wr.setCell ⟨gh, i, none⟩ (.int .i64 (j : Int))) ((j - 1) * n + i) n p gh (hadN n t j i) (hadN n t j (i + 1))) := by
                have := HI.out.set (i := i) (j := j)
                rw [hd2] at this
                exact this
              have HMK := hide (fun W => mark_calls (w := W) (n := i) (j := j) (by omega) (by omega))
              have hBb : (j - 1) * n + i ≤ 1000000000 := by
                have h9 := HTN.out
                have h8 : (j - 1) * n ≤ t * n := Nat.mul_le_mul_right n (by omega)
                omega
              have HWT : Hid (∀ W v, Ga w W ((j - 1) * n + i) n p gh (hadN n t j i) (hadN n t j (i + 1)) → Own8 W 0 v (markL i j) → Calls Try.prog 10 #[.pointer (some ⟨p, 0, none⟩), .int .i64 (i : Int), v] W fun e w' => e = .returned (.int .i64 0) ∧ Ga w w' ((j - 1) * n + (i + 1)) n p gh (hadN n t j (i + 1)) (hadN n t j (i + 1))) := fun W v hG hu => by
                have := hG.write hil hd1 hBb hu
                rw [hd2] at this
                exact this
              clear HSK HWR HI hd1 hd2 hBb c3
              generalize hadN n t j i i = zi at *
              by_cases c3 : r3 = 2
              · have c3k : (r3 : Int) = 2 := by omega
                have c3j := c3i c3k
                have d3 : decide ((j : Int) = (t : Int)) = false := by simpa using c3j
                have c3n : ¬ j = t := by omega
                have d3n : decide (j = t) = false := by simpa using c3n
                clear c3 c3i
                go_wp2_with fail
                · exfalso
                  rename_i h9
                  rcases h9 with h9 | h9
                  · exact c5i (eq_of_beq h9)
                  · exact c3j (eq_of_beq h9)
                generalize wr.setCell ⟨gh, i, none⟩ (.int .i64 (j : Int)) = w4 at *
                refine (unhide HMK _).mono ?_
                rintro e w5 ⟨g5, rfl, _, hu5, hb5⟩
                have HW5 := hide (unhide HWT w5 _ (HS.out.below hb5) (hu5.mono (Nat.zero_le _)))
                clear HMK HWT HS hu5 hb5
                go_wp2_with fail
                refine (unhide HW5).mono ?_
                rintro e w6 ⟨rfl, hG6⟩
                have HG6 := hide hG6
                clear HW5 hG6
                go_wp2
                go_roundw
                case rel => exact ⟨i + 1, by omega, by go_num, HG6⟩
                case measure => simp [intOf]; omega
              · have c3k : ¬ (r3 : Int) = 2 := by omega
                have d3 : decide ((r3 : Int) = 2) = false := by simpa using c3k
                clear c3 c3i
                go_wp2_with fail
                generalize wr.setCell ⟨gh, i, none⟩ (.int .i64 (j : Int)) = w4 at *
                refine (unhide HMK _).mono ?_
                rintro e w5 ⟨g5, rfl, _, hu5, hb5⟩
                have HW5 := hide (unhide HWT w5 _ (HS.out.below hb5) (hu5.mono (Nat.zero_le _)))
                clear HMK HWT HS hu5 hb5
                go_wp2_with fail
                refine (unhide HW5).mono ?_
                rintro e w6 ⟨rfl, hG6⟩
                have HG6 := hide hG6
                clear HW5 hG6
                go_wp2
                go_roundw
                case rel => exact ⟨i + 1, by omega, by go_num, HG6⟩
                case measure => simp [intOf]; omega
        · have hie : i = n := by omega
          have HN : Hid (j + 1 ≤ t → Ga w wr ((j + 1 - 1) * n) n p gh (hadN n t (j + 1) 0) (hadN n t (j + 1) 0)) := fun h => by
            have h9 := HI.out
            rw [hie, hadN_row (by omega)] at h9
            refine h9.mono ?_
            rw [show j + 1 - 1 = (j - 1) + 1 by omega, Nat.succ_mul]
            exact Nat.le_refl _
          have HN2 : Hid (j + 1 = t + 1 → Ga w wr (t * n) n p gh (hadN n t t n) (hadN n t t n)) := fun h => by
            have h9 := HI.out
            have hjt : j = t := by omega
            rw [hie, hjt] at h9
            refine h9.mono ?_
            rw [← Nat.succ_mul, show (t - 1).succ = t by omega]
            exact Nat.le_refl _
          clear HI hie
          go_wp2
          go_roundw
          case rel => exact ⟨j + 1, by omega, by omega, by go_num, HN, HN2⟩
          case measure => simp [intOf]; omega
    · have hje : j = t + 1 := by omega
      have HG := hide (unhide HJ2 hje)
      clear HJ1 HJ2 hje hjt hj1
      rename World => w3
      have hB0 : t * n ≤ 30000 := HTN.out
      have HLE : Hid (∀ x, hadN n t t n x ≤ t) := fun x => hadN_le n t t n x
      clear HTN
      generalize hadN n t t n = h at *
      generalize t * n = B0 at *
      obtain ⟨t2, ht2e⟩ : ∃ t2 : Nat, (t : Int) + 2 = (t2 : Int) := ⟨t + 2, by omega⟩
      obtain ⟨t3, ht3e⟩ : ∃ t3 : Nat, (t : Int) + 3 = (t3 : Int) := ⟨t + 3, by omega⟩
      have hza := modN_lt z (m := t2) (by omega)
      have hub := modN_lt u (m := t3) (by omega)
      have HMZ := hide (fun W => mod_calls (w := W) (x := z) (m := t2) (by omega) (by omega))
      have HMU := hide (fun W => mod_calls (w := W) (x := u) (m := t3) (by omega) (by omega))
      generalize modN z t2 = a at *
      generalize modN u t3 = b at *
      have ht33 : 3 ≤ t3 := by omega
      have HT3 : Hid (t3 = t + 3) := by show t3 = t + 3; omega
      obtain ⟨l0, hli, hl0, hl1, hl2⟩ := info_parts infoSl
      have HW0 : Hid (∀ W gw, Below w3.heap.size w3 W → Arr W gw 23 (madeCells (Value.slice none 0 0).cells (n * 1)).toList → w3.heap.size ≤ gw → Gb w W (B0 + 0) n p gh gw h (.slice none 0 0) (fsL a b t 0) 0 (wantL h (fateOf a b t))) := fun W gw hb hA hg => by
        have hc : (Value.slice none 0 0).cells = #[.slice none 0 0] := rfl
        rw [hc, Nat.mul_one, toList_madeCells_one] at hA
        have hsz : w.heap.size ≤ w3.heap.size := by
          obtain ⟨G, D, h1, h2⟩ := HG.out.dk
          exact h1.kp.size
        exact ⟨HG.out.below hb, OwnZ.nil _ _, ⟨_, hA, by simp, fun j hj => by omega⟩, by omega⟩
      clear HG
      go_wp2_with (at_make; refine wpList_make_full _ rfl _ _ 33 rfl w3.heap.size 23 l0 (.slice none 0 0) 1 Try.underlying33 hli hl0 hl1 _ _ _ _ n rfl rfl rfl rfl (by rw [hl2]; omega) (by unfold maxLen; omega) (Nat.le_refl _) ?_; intro w4 hr4 hg4)
      have HGB := hide (unhide HW0 w4 _ (below_none hg4) (arr_full hr4).1 (Nat.le_refl _))
      clear HW0 hr4 hg4 hli hl0 hl1 hl2 hlt
      generalize w3.heap.size = gw at *
      clear w3
      obtain ⟨l8, h8i, h80, h81, h82⟩ := info_parts info8
      go_loopw [16, 17] (fun fv iv wr => ∃ (i c : Nat) (fa : Option Addr) (fc : Nat), i ≤ n ∧ fv = .slice fa c fc ∧ iv = .int .i64 (i : Int) ∧ Hid (cntW h i = c) ∧ Hid (Gb w wr (B0 + i) n p gh gw h (.slice fa c fc) (fsL a b t c) i (wantL h (fateOf a b t)))) (fun _ iv _ => n - (intOf iv).toNat)
      case atStart => exact ⟨0, 0, none, 0, by omega, rfl, rfl, rfl, HGB⟩
      case round =>
        clear HGB
        obtain ⟨i, c, fa, fc, hin, rfl, rfl, HC, HI⟩ := hrel
        by_cases hil : i < n
        · have hci : c ≤ i := by rw [← HC.out]; exact cntW_le h i
          obtain ⟨q', hq'⟩ : ∃ q', h i = q' := ⟨_, rfl⟩
          have HQ := hide hq'
          have hqt : q' ≤ t := by rw [← hq']; exact HLE.out i
          clear hq'
          have HM5 : Hid (∀ W g, Below wr.heap.size wr W → Arr W g 5 (List.replicate 512 (Value.int .u8 0)) → (∃ z, W.cell? ⟨gw, i, none⟩ = some z) ∧ W.frozen? ⟨gw, i, none⟩ = false ∧ Gb w (W.setCell ⟨gw, i, none⟩ (.slice (some ⟨g, 0, none⟩) 512 512)) (B0 + i) n p gh gw h (.slice fa c fc) (fsL a b t c) (i + 1) (updF (wantL h (fateOf a b t)) i zsec)) := fun W g hb hA => by
            have hG := HI.out.below hb
            have e : List.replicate 512 (Value.int .u8 0) = zsec.map (Value.int .u8) := by unfold zsec; rw [List.map_replicate]
            rw [e] at hA
            have hu := own8_arr hA (Nat.zero_le g) zsec_is.2 (by rw [zsec_is.1]; decide)
            rw [zsec_is.1] at hu
            exact ⟨hG.wt.some hil, hG.wt.frozen i, hG.put hil hu (fun j hj => by omega)⟩
          have hBi : B0 + i ≤ 1000000000 := by omega
          clear HI
          go_wp2_with (first
            | (at_make; refine wpList_make_full _ rfl _ _ 23 rfl wr.heap.size 5 l8 (.int .u8 0) 1 Try.underlying23 h8i h80 h81 _ _ _ _ 512 rfl rfl rfl rfl (by omega) (by unfold maxLen; omega) (Nat.le_refl _) ?_; intro w5 hr5 hg5; rw [made8n] at hr5
               obtain ⟨⟨z5, hz5⟩, hf5, hG5⟩ := unhide HM5 w5 _ (below_none hg5) (arr_full hr5).1
               have HG5 := hide hG5
               clear hG5 hr5 hg5 HM5
               generalize wr.heap.size = gz at *))
          generalize w5.setCell ⟨gw, i, none⟩ (.slice (some ⟨gz, 0, none⟩) 512 512) = w6 at *
          clear hz5 hf5
          refine (HG5.out.read hil hBi).mono ?_
          rintro e w7 ⟨gr, rfl, hI7, hG7⟩
          have HG7 := hide hG7
          have HCV : Hid (∀ W, Below w7.heap.size w7 W → (convert 23 9 (.slice (some ⟨gr, 0, none⟩) 512 512)).run Try.prog W = .ok (.string (mkS (nowL h i))) W) := fun W hW => conv_isB (hI7.below hW)
          clear hI7 hG7 HG5
          by_cases hq0 : q' = 0
          · have hnow : nowL h i = zsec := by unfold nowL; rw [if_pos (by rw [HQ.out]; exact hq0)]
            rw [hnow] at HCV
            have hc0 : w7.cell? ⟨gh, i, none⟩ = some (.int .i64 0) := by
              have := HG7.out.ga.cell hil
              rw [HQ.out, hq0] at this
              exact this
            obtain ⟨u0, hu1, hu2⟩ := HG7.out.wt.cellk (j := i) (by omega) hil
            rw [updF_same] at hu2
            obtain ⟨ua, un, uc, rfl⟩ := hu2.shape
            have HSS : Hid (∀ W, Below w7.heap.size w7 W → W.cell? ⟨gh, i, none⟩ = some (.int .i64 0) ∧ W.cell? ⟨gw, i, none⟩ = some (.slice ua un uc) ∧ (convert 23 9 (.slice (some ⟨gr, 0, none⟩) 512 512)).run Try.prog W = .ok (.string (mkS zsec)) W ∧ (convert 23 9 (.slice ua un uc)).run Try.prog W = .ok (.string (mkS zsec)) W) := fun W hW =>
              ⟨(hW.cell (p := ⟨gh, i, none⟩) (World.block_lt_of_cell? w7 _ hc0)).trans hc0, (hW.cell (p := ⟨gw, i, none⟩) (World.block_lt_of_cell? w7 _ hu1)).trans hu1, unhide HCV W hW, conv_isB (hu2.below hW).isB⟩
            have HN : Hid (∀ W, Below w7.heap.size w7 W → cntW h (i + 1) = c ∧ Gb w W (B0 + (i + 1)) n p gh gw h (.slice fa c fc) (fsL a b t c) (i + 1) (wantL h (fateOf a b t))) := fun W hW => by
              have h0 : h i = 0 := HQ.out.trans hq0
              refine ⟨(cntW_no h0).trans HC.out, (HG7.out.below hW).ext (fun j hj => ?_)⟩
              by_cases e : j = i
              · rw [e, updF_same]; unfold wantL; rw [if_neg (fun h9 => by omega)]
              · rw [updF_other _ _ e]
            clear HCV hc0 hu1 hu2 HQ HC HG7 hnow hqt
            subst hq0
            generalize mkS zsec = st at *
            go_wp2_with fail
            refine wp_region_held_drew (S := fun W => W.cell? ⟨gh, i, none⟩ = some (.int .i64 0) ∧ W.cell? ⟨gw, i, none⟩ = some (.slice ua un uc) ∧ (convert 23 9 (.slice (some ⟨gr, 0, none⟩) 512 512)).run Try.prog W = .ok (.string st) W ∧ (convert 23 9 (.slice ua un uc)).run Try.prog W = .ok (.string st) W) (by kernel_rfl) (unhide HSS _ (Below.refl _ _).drew) (fun hHeld => ?_)
            refine wpAnyH_take (i := 0) (v := .int .i64 0) rfl (by kernel_rfl) (by kernel_rfl) (by kernel_rfl) (fun _ _ _ h => h) (Or.inl ⟨by rfl, fun w hSw => by obtain ⟨hS1, hS2, hS3, hS4⟩ := hSw; go_simp⟩) (by assumption) ?_
            simp only [List.getElem_toArray, List.getElem_cons_zero, Act.put, List.setIfInBounds_toArray, List.set_cons_zero, List.set_cons_succ]
            refine wpAnyH_take (i := 1) (v := .bool false) rfl (by kernel_rfl) (by kernel_rfl) (by kernel_rfl) (fun _ _ _ h => h) (Or.inl ⟨by rfl, fun w hSw => by obtain ⟨hS1, hS2, hS3, hS4⟩ := hSw; go_simp⟩) (by assumption) ?_
            simp only [List.getElem_toArray, List.getElem_cons_succ, List.getElem_cons_zero, Act.put, List.setIfInBounds_toArray, List.set_cons_zero, List.set_cons_succ]
            refine wpAnyH_take (i := 2) (v := .bool false) rfl (by kernel_rfl) (by kernel_rfl) (by kernel_rfl) (fun _ _ _ h => h) (Or.inl ⟨by rfl, fun w hSw => by obtain ⟨hS1, hS2, hS3, hS4⟩ := hSw; go_simp⟩) (by assumption) ?_
            simp only [List.getElem_toArray, List.getElem_cons_succ, List.getElem_cons_zero, Act.put, List.setIfInBounds_toArray, List.set_cons_zero, List.set_cons_succ]
            refine wpAnyH_take (i := 3) (v := .slice (some ⟨gh, 0, none⟩) n n) rfl (by kernel_rfl) (by kernel_rfl) (by kernel_rfl) (fun _ _ _ h => h) (Or.inl ⟨by rfl, fun w hSw => by obtain ⟨hS1, hS2, hS3, hS4⟩ := hSw; go_simp⟩) (by assumption) ?_
            simp only [List.getElem_toArray, List.getElem_cons_succ, List.getElem_cons_zero, Act.put, List.setIfInBounds_toArray, List.set_cons_zero, List.set_cons_succ]
            refine wpAnyH_take (i := 4) (v := .int .i64 (i : Int)) rfl (by kernel_rfl) (by kernel_rfl) (by kernel_rfl) (fun _ _ _ h => h) (Or.inl ⟨by rfl, fun w hSw => by obtain ⟨hS1, hS2, hS3, hS4⟩ := hSw; go_simp⟩) (by assumption) ?_
            simp only [List.getElem_toArray, List.getElem_cons_succ, List.getElem_cons_zero, Act.put, List.setIfInBounds_toArray, List.set_cons_zero, List.set_cons_succ]
            refine wpAnyH_take (i := 5) (v := .pointer (some ⟨gh, i, none⟩)) rfl (by kernel_rfl) (by kernel_rfl) (by kernel_rfl) (fun _ _ _ h => h) (Or.inl ⟨by rfl, fun w hSw => by obtain ⟨hS1, hS2, hS3, hS4⟩ := hSw; go_simp⟩) (by assumption) ?_
            simp only [List.getElem_toArray, List.getElem_cons_succ, List.getElem_cons_zero, Act.put, List.setIfInBounds_toArray, List.set_cons_zero, List.set_cons_succ]
            refine wpAnyH_take (i := 6) (v := .int .i64 0) rfl (by kernel_rfl) (by kernel_rfl) (by kernel_rfl) (fun _ _ _ h => h) (Or.inl ⟨by rfl, fun w hSw => by obtain ⟨hS1, hS2, hS3, hS4⟩ := hSw; go_simp⟩) (by assumption) ?_
            simp only [List.getElem_toArray, List.getElem_cons_succ, List.getElem_cons_zero, Act.put, List.setIfInBounds_toArray, List.set_cons_zero, List.set_cons_succ]
            refine wpAnyH_take (i := 7) (v := .bool false) rfl (by kernel_rfl) (by kernel_rfl) (by kernel_rfl) (fun _ _ _ h => h) (Or.inl ⟨by rfl, fun w hSw => by obtain ⟨hS1, hS2, hS3, hS4⟩ := hSw; go_simp⟩) (by assumption) ?_
            simp only [List.getElem_toArray, List.getElem_cons_succ, List.getElem_cons_zero, Act.put, List.setIfInBounds_toArray, List.set_cons_zero, List.set_cons_succ]
            refine wpAnyH_take (i := 8) (v := .bool false) rfl (by kernel_rfl) (by kernel_rfl) (by kernel_rfl) (fun _ _ _ h => h) (Or.inl ⟨by rfl, fun w hSw => by obtain ⟨hS1, hS2, hS3, hS4⟩ := hSw; go_simp⟩) (by assumption) ?_
            simp only [List.getElem_toArray, List.getElem_cons_succ, List.getElem_cons_zero, Act.put, List.setIfInBounds_toArray, List.set_cons_zero, List.set_cons_succ]
            refine wpAnyH_take (i := 9) (v := undef) rfl (by kernel_rfl) (by kernel_rfl) (by kernel_rfl) (fun _ _ _ h => h) (Or.inr ⟨by rfl, rfl⟩) (by assumption) ?_
            simp only [List.getElem_toArray, List.getElem_cons_succ, List.getElem_cons_zero, Act.put, List.setIfInBounds_toArray, List.set_cons_zero, List.set_cons_succ]
            refine wpAnyH_take (i := 10) (v := undef) rfl (by kernel_rfl) (by kernel_rfl) (by kernel_rfl) (fun _ _ _ h => h) (Or.inr ⟨by rfl, rfl⟩) (by assumption) ?_
            simp only [List.getElem_toArray, List.getElem_cons_succ, List.getElem_cons_zero, Act.put, List.setIfInBounds_toArray, List.set_cons_zero, List.set_cons_succ]
            refine wpAnyH_take (i := 11) (v := undef) rfl (by kernel_rfl) (by kernel_rfl) (by kernel_rfl) (fun _ _ _ h => h) (Or.inr ⟨by rfl, rfl⟩) (by assumption) ?_
            simp only [List.getElem_toArray, List.getElem_cons_succ, List.getElem_cons_zero, Act.put, List.setIfInBounds_toArray, List.set_cons_zero, List.set_cons_succ]
            refine wpAnyH_take (i := 12) (v := undef) rfl (by kernel_rfl) (by kernel_rfl) (by kernel_rfl) (fun _ _ _ h => h) (Or.inr ⟨by rfl, rfl⟩) (by assumption) ?_
            simp only [List.getElem_toArray, List.getElem_cons_succ, List.getElem_cons_zero, Act.put, List.setIfInBounds_toArray, List.set_cons_zero, List.set_cons_succ]
            refine wpAnyH_take (i := 13) (v := undef) rfl (by kernel_rfl) (by kernel_rfl) (by kernel_rfl) (fun _ _ _ h => h) (Or.inr ⟨by rfl, rfl⟩) (by assumption) ?_
            simp only [List.getElem_toArray, List.getElem_cons_succ, List.getElem_cons_zero, Act.put, List.setIfInBounds_toArray, List.set_cons_zero, List.set_cons_succ]
            refine wpAnyH_take (i := 14) (v := undef) rfl (by kernel_rfl) (by kernel_rfl) (by kernel_rfl) (fun _ _ _ h => h) (Or.inr ⟨by rfl, rfl⟩) (by assumption) ?_
            simp only [List.getElem_toArray, List.getElem_cons_succ, List.getElem_cons_zero, Act.put, List.setIfInBounds_toArray, List.set_cons_zero, List.set_cons_succ]
            refine wpAnyH_take (i := 15) (v := undef) rfl (by kernel_rfl) (by kernel_rfl) (by kernel_rfl) (fun _ _ _ h => h) (Or.inr ⟨by rfl, rfl⟩) (by assumption) ?_
            simp only [List.getElem_toArray, List.getElem_cons_succ, List.getElem_cons_zero, Act.put, List.setIfInBounds_toArray, List.set_cons_zero, List.set_cons_succ]
            refine wpAnyH_take (i := 16) (v := undef) rfl (by kernel_rfl) (by kernel_rfl) (by kernel_rfl) (fun _ _ _ h => h) (Or.inr ⟨by rfl, rfl⟩) (by assumption) ?_
            simp only [List.getElem_toArray, List.getElem_cons_succ, List.getElem_cons_zero, Act.put, List.setIfInBounds_toArray, List.set_cons_zero, List.set_cons_succ]
            refine wpAnyH_take (i := 17) (v := undef) rfl (by kernel_rfl) (by kernel_rfl) (by kernel_rfl) (fun _ _ _ h => h) (Or.inr ⟨by rfl, rfl⟩) (by assumption) ?_
            simp only [List.getElem_toArray, List.getElem_cons_succ, List.getElem_cons_zero, Act.put, List.setIfInBounds_toArray, List.set_cons_zero, List.set_cons_succ]
            refine wpAnyH_take (i := 18) (v := undef) rfl (by kernel_rfl) (by kernel_rfl) (by kernel_rfl) (fun _ _ _ h => h) (Or.inr ⟨by rfl, rfl⟩) (by assumption) ?_
            simp only [List.getElem_toArray, List.getElem_cons_succ, List.getElem_cons_zero, Act.put, List.setIfInBounds_toArray, List.set_cons_zero, List.set_cons_succ]
            refine wpAnyH_take (i := 19) (v := .bool false) rfl (by kernel_rfl) (by kernel_rfl) (by kernel_rfl) (fun _ _ _ h => h) (Or.inl ⟨by rfl, fun w hSw => by obtain ⟨hS1, hS2, hS3, hS4⟩ := hSw; go_simp⟩) (by assumption) ?_
            simp only [List.getElem_toArray, List.getElem_cons_succ, List.getElem_cons_zero, Act.put, List.setIfInBounds_toArray, List.set_cons_zero, List.set_cons_succ]
            refine wpAnyH_take (i := 20) (v := .bool false) rfl (by kernel_rfl) (by kernel_rfl) (by kernel_rfl) (fun _ _ _ h => h) (Or.inl ⟨by rfl, fun w hSw => by obtain ⟨hS1, hS2, hS3, hS4⟩ := hSw; go_simp⟩) (by assumption) ?_
            simp only [List.getElem_toArray, List.getElem_cons_succ, List.getElem_cons_zero, Act.put, List.setIfInBounds_toArray, List.set_cons_zero, List.set_cons_succ]
            refine wpAnyH_take (i := 21) (v := .bool false) rfl (by kernel_rfl) (by kernel_rfl) (by kernel_rfl) (fun _ _ _ h => h) (Or.inl ⟨by rfl, fun w hSw => by obtain ⟨hS1, hS2, hS3, hS4⟩ := hSw; go_simp⟩) (by assumption) ?_
            simp only [List.getElem_toArray, List.getElem_cons_succ, List.getElem_cons_zero, Act.put, List.setIfInBounds_toArray, List.set_cons_zero, List.set_cons_succ]
            refine wpAnyH_take (i := 22) (v := .slice (some ⟨gh, 0, none⟩) n n) rfl (by kernel_rfl) (by kernel_rfl) (by kernel_rfl) (fun _ _ _ h => h) (Or.inl ⟨by rfl, fun w hSw => by obtain ⟨hS1, hS2, hS3, hS4⟩ := hSw; go_simp⟩) (by assumption) ?_
            simp only [List.getElem_toArray, List.getElem_cons_succ, List.getElem_cons_zero, Act.put, List.setIfInBounds_toArray, List.set_cons_zero, List.set_cons_succ]
            refine wpAnyH_take (i := 23) (v := .int .i64 (i : Int)) rfl (by kernel_rfl) (by kernel_rfl) (by kernel_rfl) (fun _ _ _ h => h) (Or.inl ⟨by rfl, fun w hSw => by obtain ⟨hS1, hS2, hS3, hS4⟩ := hSw; go_simp⟩) (by assumption) ?_
            simp only [List.getElem_toArray, List.getElem_cons_succ, List.getElem_cons_zero, Act.put, List.setIfInBounds_toArray, List.set_cons_zero, List.set_cons_succ]
            refine wpAnyH_take (i := 24) (v := .pointer (some ⟨gh, i, none⟩)) rfl (by kernel_rfl) (by kernel_rfl) (by kernel_rfl) (fun _ _ _ h => h) (Or.inl ⟨by rfl, fun w hSw => by obtain ⟨hS1, hS2, hS3, hS4⟩ := hSw; go_simp⟩) (by assumption) ?_
            simp only [List.getElem_toArray, List.getElem_cons_succ, List.getElem_cons_zero, Act.put, List.setIfInBounds_toArray, List.set_cons_zero, List.set_cons_succ]
            refine wpAnyH_take (i := 25) (v := .int .i64 0) rfl (by kernel_rfl) (by kernel_rfl) (by kernel_rfl) (fun _ _ _ h => h) (Or.inl ⟨by rfl, fun w hSw => by obtain ⟨hS1, hS2, hS3, hS4⟩ := hSw; go_simp⟩) (by assumption) ?_
            simp only [List.getElem_toArray, List.getElem_cons_succ, List.getElem_cons_zero, Act.put, List.setIfInBounds_toArray, List.set_cons_zero, List.set_cons_succ]
            refine wpAnyH_take (i := 26) (v := .bool true) rfl (by kernel_rfl) (by kernel_rfl) (by kernel_rfl) (fun _ _ _ h => h) (Or.inl ⟨by rfl, fun w hSw => by obtain ⟨hS1, hS2, hS3, hS4⟩ := hSw; go_simp⟩) (by assumption) ?_
            simp only [List.getElem_toArray, List.getElem_cons_succ, List.getElem_cons_zero, Act.put, List.setIfInBounds_toArray, List.set_cons_zero, List.set_cons_succ]
            refine wpAnyH_take (i := 27) (v := .bool true) rfl (by kernel_rfl) (by kernel_rfl) (by kernel_rfl) (fun _ _ _ h => h) (Or.inl ⟨by rfl, fun w hSw => by obtain ⟨hS1, hS2, hS3, hS4⟩ := hSw; go_simp⟩) (by assumption) ?_
            simp only [List.getElem_toArray, List.getElem_cons_succ, List.getElem_cons_zero, Act.put, List.setIfInBounds_toArray, List.set_cons_zero, List.set_cons_succ]
            refine wpAnyH_take (i := 28) (v := .slice (some ⟨gr, 0, none⟩) 512 512) rfl (by kernel_rfl) (by kernel_rfl) (by kernel_rfl) (fun _ _ _ h => h) (Or.inl ⟨by rfl, fun w hSw => by obtain ⟨hS1, hS2, hS3, hS4⟩ := hSw; go_simp⟩) (by assumption) ?_
            simp only [List.getElem_toArray, List.getElem_cons_succ, List.getElem_cons_zero, Act.put, List.setIfInBounds_toArray, List.set_cons_zero, List.set_cons_succ]
            refine wpAnyH_take (i := 29) (v := .string st) rfl (by kernel_rfl) (by kernel_rfl) (by kernel_rfl) (fun _ _ _ h => h) (Or.inl ⟨by rfl, fun w hSw => by obtain ⟨hS1, hS2, hS3, hS4⟩ := hSw; go_simp⟩) (by assumption) ?_
            simp only [List.getElem_toArray, List.getElem_cons_succ, List.getElem_cons_zero, Act.put, List.setIfInBounds_toArray, List.set_cons_zero, List.set_cons_succ]
            refine wpAnyH_take (i := 30) (v := .slice (some ⟨gw, 0, none⟩) n n) rfl (by kernel_rfl) (by kernel_rfl) (by kernel_rfl) (fun _ _ _ h => h) (Or.inl ⟨by rfl, fun w hSw => by obtain ⟨hS1, hS2, hS3, hS4⟩ := hSw; go_simp⟩) (by assumption) ?_
            simp only [List.getElem_toArray, List.getElem_cons_succ, List.getElem_cons_zero, Act.put, List.setIfInBounds_toArray, List.set_cons_zero, List.set_cons_succ]
            refine wpAnyH_take (i := 31) (v := .int .i64 (i : Int)) rfl (by kernel_rfl) (by kernel_rfl) (by kernel_rfl) (fun _ _ _ h => h) (Or.inl ⟨by rfl, fun w hSw => by obtain ⟨hS1, hS2, hS3, hS4⟩ := hSw; go_simp⟩) (by assumption) ?_
            simp only [List.getElem_toArray, List.getElem_cons_succ, List.getElem_cons_zero, Act.put, List.setIfInBounds_toArray, List.set_cons_zero, List.set_cons_succ]
            refine wpAnyH_take (i := 32) (v := .pointer (some ⟨gw, i, none⟩)) rfl (by kernel_rfl) (by kernel_rfl) (by kernel_rfl) (fun _ _ _ h => h) (Or.inl ⟨by rfl, fun w hSw => by obtain ⟨hS1, hS2, hS3, hS4⟩ := hSw; go_simp⟩) (by assumption) ?_
            simp only [List.getElem_toArray, List.getElem_cons_succ, List.getElem_cons_zero, Act.put, List.setIfInBounds_toArray, List.set_cons_zero, List.set_cons_succ]
            refine wpAnyH_take (i := 33) (v := .slice ua un uc) rfl (by kernel_rfl) (by kernel_rfl) (by kernel_rfl) (fun _ _ _ h => h) (Or.inl ⟨by rfl, fun w hSw => by obtain ⟨hS1, hS2, hS3, hS4⟩ := hSw; go_simp⟩) (by assumption) ?_
            simp only [List.getElem_toArray, List.getElem_cons_succ, List.getElem_cons_zero, Act.put, List.setIfInBounds_toArray, List.set_cons_zero, List.set_cons_succ]
            refine wpAnyH_take (i := 34) (v := .string st) rfl (by kernel_rfl) (by kernel_rfl) (by kernel_rfl) (fun _ _ _ h => h) (Or.inl ⟨by rfl, fun w hSw => by obtain ⟨hS1, hS2, hS3, hS4⟩ := hSw; go_simp⟩) (by assumption) ?_
            simp only [List.getElem_toArray, List.getElem_cons_succ, List.getElem_cons_zero, Act.put, List.setIfInBounds_toArray, List.set_cons_zero, List.set_cons_succ]
            refine wpAnyH_take (i := 35) (v := .bool false) rfl (by kernel_rfl) (by kernel_rfl) (by kernel_rfl) (fun _ _ _ h => h) (Or.inl ⟨by rfl, fun w hSw => by obtain ⟨hS1, hS2, hS3, hS4⟩ := hSw; go_simp⟩) (by assumption) ?_
            simp only [List.getElem_toArray, List.getElem_cons_succ, List.getElem_cons_zero, Act.put, List.setIfInBounds_toArray, List.set_cons_zero, List.set_cons_succ]
            refine wpAnyH_take (i := 36) (v := .bool false) rfl (by kernel_rfl) (by kernel_rfl) (by kernel_rfl) (fun _ _ _ h => h) (Or.inl ⟨by rfl, fun w hSw => by obtain ⟨hS1, hS2, hS3, hS4⟩ := hSw; go_simp⟩) (by assumption) ?_
            simp only [List.getElem_toArray, List.getElem_cons_succ, List.getElem_cons_zero, Act.put, List.setIfInBounds_toArray, List.set_cons_zero, List.set_cons_succ]
            refine wpAnyH_take (i := 37) (v := .bool false) rfl (by kernel_rfl) (by kernel_rfl) (by kernel_rfl) (fun _ _ _ h => h) (Or.inl ⟨by rfl, fun w hSw => by obtain ⟨hS1, hS2, hS3, hS4⟩ := hSw; go_simp⟩) (by assumption) ?_
            simp only [List.getElem_toArray, List.getElem_cons_succ, List.getElem_cons_zero, Act.put, List.setIfInBounds_toArray, List.set_cons_zero, List.set_cons_succ]
            refine wpAnyH_done (by kernel_rfl) ?_ _
            clear hHeld
            have HN2 := hide (unhide HN w7.drew (Below.refl _ _).drew)
            have hc8 := (unhide HSS w7.drew (Below.refl _ _).drew).1
            clear HN HSS
            generalize w7.drew = w8 at *
            go_wp2
            go_roundw
            case rel => exact ⟨i + 1, c, fa, fc, by omega, rfl, by go_num, HN2.out.1, HN2.out.2⟩
            case measure => simp [intOf]; omega
          · have hnow : nowL h i = markL i q' := by unfold nowL; rw [HQ.out, if_neg hq0]
            rw [hnow] at HCV
            have hc0 : w7.cell? ⟨gh, i, none⟩ = some (.int .i64 (q' : Int)) := by
              have := HG7.out.ga.cell hil
              rw [HQ.out] at this
              exact this
            have HSS : Hid (∀ W, Below w7.heap.size w7 W → W.cell? ⟨gh, i, none⟩ = some (.int .i64 (q' : Int)) ∧ (convert 23 9 (.slice (some ⟨gr, 0, none⟩) 512 512)).run Try.prog W = .ok (.string (mkS (markL i q'))) W) := fun W hW =>
              ⟨(hW.cell (p := ⟨gh, i, none⟩) (World.block_lt_of_cell? w7 _ hc0)).trans hc0, unhide HCV W hW⟩
            have HMK : Hid (∀ W, Below w7.heap.size w7 W → Calls Try.prog 31 #[.int .i64 (i : Int), .int .i64 (q' : Int)] W fun e w' => ∃ g, e = .returned (.slice (some ⟨g, 0, none⟩) 512 512) ∧ (convert 23 9 (.slice (some ⟨g, 0, none⟩) 512 512)).run Try.prog w' = .ok (.string (mkS (markL i q'))) w' ∧ Below w7.heap.size w7 w') := fun W hW => by
              refine (mark_calls (w := W) (n := i) (j := q') (by omega) (by omega)).mono ?_
              rintro e w' ⟨g, rfl, _, hu, hb⟩
              exact ⟨g, rfl, conv_isB hu.isB, hW.trans (hb.mono hW.size)⟩
            have HGB : Hid (∀ W, Below w7.heap.size w7 W → Gb w W (B0 + (i + 1)) n p gh gw h (.slice fa c fc) (fsL a b t c) (i + 1) (updF (wantL h (fateOf a b t)) i zsec)) := fun W hW => HG7.out.below hW
            have hqI : (0 : Int) < (q' : Int) := by omega
            have hqn : ¬ (q' : Int) = 0 := by omega
            have hq1 : 0 < q' := by omega
            have hqz : ¬ q' = 0 := hq0
            clear HCV hc0 HG7 hnow hq0
            generalize mkS (markL i q') = st at *
            go_wp2_with fail
            refine wp_region_held_drew (S := fun W => W.cell? ⟨gh, i, none⟩ = some (.int .i64 (q' : Int)) ∧ (convert 23 9 (.slice (some ⟨gr, 0, none⟩) 512 512)).run Try.prog W = .ok (.string st) W) (by kernel_rfl) (unhide HSS _ (Below.refl _ _).drew) (fun hHeld => ?_)
            refine wpAnyH_take (i := 0) (v := .int .i64 0) rfl (by kernel_rfl) (by kernel_rfl) (by kernel_rfl) (fun _ _ _ h => h) (Or.inl ⟨by rfl, fun w hSw => by obtain ⟨hS1, hS2⟩ := hSw; go_simp⟩) (by assumption) ?_
            simp only [List.getElem_toArray, List.getElem_cons_zero, Act.put, List.setIfInBounds_toArray, List.set_cons_zero, List.set_cons_succ]
            refine wpAnyH_take (i := 1) (v := .bool false) rfl (by kernel_rfl) (by kernel_rfl) (by kernel_rfl) (fun _ _ _ h => h) (Or.inl ⟨by rfl, fun w hSw => by obtain ⟨hS1, hS2⟩ := hSw; go_simp⟩) (by assumption) ?_
            simp only [List.getElem_toArray, List.getElem_cons_succ, List.getElem_cons_zero, Act.put, List.setIfInBounds_toArray, List.set_cons_zero, List.set_cons_succ]
            refine wpAnyH_take (i := 2) (v := .bool false) rfl (by kernel_rfl) (by kernel_rfl) (by kernel_rfl) (fun _ _ _ h => h) (Or.inl ⟨by rfl, fun w hSw => by obtain ⟨hS1, hS2⟩ := hSw; go_simp⟩) (by assumption) ?_
            simp only [List.getElem_toArray, List.getElem_cons_succ, List.getElem_cons_zero, Act.put, List.setIfInBounds_toArray, List.set_cons_zero, List.set_cons_succ]
            refine wpAnyH_take (i := 3) (v := .slice (some ⟨gh, 0, none⟩) n n) rfl (by kernel_rfl) (by kernel_rfl) (by kernel_rfl) (fun _ _ _ h => h) (Or.inl ⟨by rfl, fun w hSw => by obtain ⟨hS1, hS2⟩ := hSw; go_simp⟩) (by assumption) ?_
            simp only [List.getElem_toArray, List.getElem_cons_succ, List.getElem_cons_zero, Act.put, List.setIfInBounds_toArray, List.set_cons_zero, List.set_cons_succ]
            refine wpAnyH_take (i := 4) (v := .int .i64 (i : Int)) rfl (by kernel_rfl) (by kernel_rfl) (by kernel_rfl) (fun _ _ _ h => h) (Or.inl ⟨by rfl, fun w hSw => by obtain ⟨hS1, hS2⟩ := hSw; go_simp⟩) (by assumption) ?_
            simp only [List.getElem_toArray, List.getElem_cons_succ, List.getElem_cons_zero, Act.put, List.setIfInBounds_toArray, List.set_cons_zero, List.set_cons_succ]
            refine wpAnyH_take (i := 5) (v := .pointer (some ⟨gh, i, none⟩)) rfl (by kernel_rfl) (by kernel_rfl) (by kernel_rfl) (fun _ _ _ h => h) (Or.inl ⟨by rfl, fun w hSw => by obtain ⟨hS1, hS2⟩ := hSw; go_simp⟩) (by assumption) ?_
            simp only [List.getElem_toArray, List.getElem_cons_succ, List.getElem_cons_zero, Act.put, List.setIfInBounds_toArray, List.set_cons_zero, List.set_cons_succ]
            refine wpAnyH_take (i := 6) (v := .int .i64 (q' : Int)) rfl (by kernel_rfl) (by kernel_rfl) (by kernel_rfl) (fun _ _ _ h => h) (Or.inl ⟨by rfl, fun w hSw => by obtain ⟨hS1, hS2⟩ := hSw; go_simp⟩) (by assumption) ?_
            simp only [List.getElem_toArray, List.getElem_cons_succ, List.getElem_cons_zero, Act.put, List.setIfInBounds_toArray, List.set_cons_zero, List.set_cons_succ]
            refine wpAnyH_take (i := 7) (v := .bool true) rfl (by kernel_rfl) (by kernel_rfl) (by kernel_rfl) (fun _ _ _ h => h) (Or.inl ⟨by rfl, fun w hSw => by obtain ⟨hS1, hS2⟩ := hSw; go_simp⟩) (by assumption) ?_
            simp only [List.getElem_toArray, List.getElem_cons_succ, List.getElem_cons_zero, Act.put, List.setIfInBounds_toArray, List.set_cons_zero, List.set_cons_succ]
            refine wpAnyH_take (i := 8) (v := .bool true) rfl (by kernel_rfl) (by kernel_rfl) (by kernel_rfl) (fun _ _ _ h => h) (Or.inl ⟨by rfl, fun w hSw => by obtain ⟨hS1, hS2⟩ := hSw; go_simp⟩) (by assumption) ?_
            simp only [List.getElem_toArray, List.getElem_cons_succ, List.getElem_cons_zero, Act.put, List.setIfInBounds_toArray, List.set_cons_zero, List.set_cons_succ]
            refine wpAnyH_take (i := 9) (v := .slice (some ⟨gr, 0, none⟩) 512 512) rfl (by kernel_rfl) (by kernel_rfl) (by kernel_rfl) (fun _ _ _ h => h) (Or.inl ⟨by rfl, fun w hSw => by obtain ⟨hS1, hS2⟩ := hSw; go_simp⟩) (by assumption) ?_
            simp only [List.getElem_toArray, List.getElem_cons_succ, List.getElem_cons_zero, Act.put, List.setIfInBounds_toArray, List.set_cons_zero, List.set_cons_succ]
            refine wpAnyH_take (i := 10) (v := .string st) rfl (by kernel_rfl) (by kernel_rfl) (by kernel_rfl) (fun _ _ _ h => h) (Or.inl ⟨by rfl, fun w hSw => by obtain ⟨hS1, hS2⟩ := hSw; go_simp⟩) (by assumption) ?_
            simp only [List.getElem_toArray, List.getElem_cons_succ, List.getElem_cons_zero, Act.put, List.setIfInBounds_toArray, List.set_cons_zero, List.set_cons_succ]
            refine wpAnyH_take (i := 11) (v := .int .i64 (i : Int)) rfl (by kernel_rfl) (by kernel_rfl) (by kernel_rfl) (fun _ _ _ h => h) (Or.inl ⟨by rfl, fun w hSw => by obtain ⟨hS1, hS2⟩ := hSw; go_simp⟩) (by assumption) ?_
            simp only [List.getElem_toArray, List.getElem_cons_succ, List.getElem_cons_zero, Act.put, List.setIfInBounds_toArray, List.set_cons_zero, List.set_cons_succ]
            refine wpAnyH_take (i := 12) (v := .slice (some ⟨gh, 0, none⟩) n n) rfl (by kernel_rfl) (by kernel_rfl) (by kernel_rfl) (fun _ _ _ h => h) (Or.inl ⟨by rfl, fun w hSw => by obtain ⟨hS1, hS2⟩ := hSw; go_simp⟩) (by assumption) ?_
            simp only [List.getElem_toArray, List.getElem_cons_succ, List.getElem_cons_zero, Act.put, List.setIfInBounds_toArray, List.set_cons_zero, List.set_cons_succ]
            refine wpAnyH_take (i := 13) (v := .int .i64 (i : Int)) rfl (by kernel_rfl) (by kernel_rfl) (by kernel_rfl) (fun _ _ _ h => h) (Or.inl ⟨by rfl, fun w hSw => by obtain ⟨hS1, hS2⟩ := hSw; go_simp⟩) (by assumption) ?_
            simp only [List.getElem_toArray, List.getElem_cons_succ, List.getElem_cons_zero, Act.put, List.setIfInBounds_toArray, List.set_cons_zero, List.set_cons_succ]
            refine wpAnyH_take (i := 14) (v := .pointer (some ⟨gh, i, none⟩)) rfl (by kernel_rfl) (by kernel_rfl) (by kernel_rfl) (fun _ _ _ h => h) (Or.inl ⟨by rfl, fun w hSw => by obtain ⟨hS1, hS2⟩ := hSw; go_simp⟩) (by assumption) ?_
            simp only [List.getElem_toArray, List.getElem_cons_succ, List.getElem_cons_zero, Act.put, List.setIfInBounds_toArray, List.set_cons_zero, List.set_cons_succ]
            refine wpAnyH_take (i := 15) (v := .int .i64 (q' : Int)) rfl (by kernel_rfl) (by kernel_rfl) (by kernel_rfl) (fun _ _ _ h => h) (Or.inl ⟨by rfl, fun w hSw => by obtain ⟨hS1, hS2⟩ := hSw; go_simp⟩) (by assumption) ?_
            simp only [List.getElem_toArray, List.getElem_cons_succ, List.getElem_cons_zero, Act.put, List.setIfInBounds_toArray, List.set_cons_zero, List.set_cons_succ]
            refine wpAnyH_ready (rs := [16]) (by kernel_rfl) (by simp) (AllReadyH.cons rfl (fun K hK => ?_) AllReadyH.nil)
            refine step_call2Gd (by rfl) 31 mark_enter (.tmp 110) (.tmp 114) _ rfl rfl rfl (unhide HMK _ (Below.refl _ _).drew) ?_
            rintro e w8 ⟨g8, rfl, hcv8, hb8⟩
            refine ⟨_, rfl, ?_⟩
            refine hK.out _ _ (unhide HSS _ hb8) (fun hHeld2 => ?_)
            clear hK K
            simp only [List.getElem_toArray, List.getElem_cons_succ, List.getElem_cons_zero, Act.put, List.setIfInBounds_toArray, List.set_cons_zero, List.set_cons_succ]
            refine wpAnyH_ready (rs := [17]) (by kernel_rfl) (by simp) (AllReadyH.cons rfl (fun K hK => ?_) AllReadyH.nil)
            refine step_conv (by rfl) (.tmp 115) rfl rfl hcv8 ?_
            refine hK.out _ _ (hHeld2) (fun hHeld3 => ?_)
            clear hK K
            simp only [List.getElem_toArray, List.getElem_cons_succ, List.getElem_cons_zero, Act.put, List.setIfInBounds_toArray, List.set_cons_zero, List.set_cons_succ]
            refine wpAnyH_take (i := 18) (v := .bool false) rfl (by kernel_rfl) (by kernel_rfl) (by kernel_rfl) (fun _ _ _ h => h) (Or.inl ⟨by rfl, fun w hSw => by obtain ⟨hS1, hS2⟩ := hSw; go_simp⟩) (by assumption) ?_
            simp only [List.getElem_toArray, List.getElem_cons_succ, List.getElem_cons_zero, Act.put, List.setIfInBounds_toArray, List.set_cons_zero, List.set_cons_succ]
            refine wpAnyH_take (i := 19) (v := .bool false) rfl (by kernel_rfl) (by kernel_rfl) (by kernel_rfl) (fun _ _ _ h => h) (Or.inl ⟨by rfl, fun w hSw => by obtain ⟨hS1, hS2⟩ := hSw; go_simp⟩) (by assumption) ?_
            simp only [List.getElem_toArray, List.getElem_cons_succ, List.getElem_cons_zero, Act.put, List.setIfInBounds_toArray, List.set_cons_zero, List.set_cons_succ]
            refine wpAnyH_take (i := 20) (v := .bool false) rfl (by kernel_rfl) (by kernel_rfl) (by kernel_rfl) (fun _ _ _ h => h) (Or.inl ⟨by rfl, fun w hSw => by obtain ⟨hS1, hS2⟩ := hSw; go_simp⟩) (by assumption) ?_
            simp only [List.getElem_toArray, List.getElem_cons_succ, List.getElem_cons_zero, Act.put, List.setIfInBounds_toArray, List.set_cons_zero, List.set_cons_succ]
            refine wpAnyH_take (i := 21) (v := .bool false) rfl (by kernel_rfl) (by kernel_rfl) (by kernel_rfl) (fun _ _ _ h => h) (Or.inl ⟨by rfl, fun w hSw => by obtain ⟨hS1, hS2⟩ := hSw; go_simp⟩) (by assumption) ?_
            simp only [List.getElem_toArray, List.getElem_cons_succ, List.getElem_cons_zero, Act.put, List.setIfInBounds_toArray, List.set_cons_zero, List.set_cons_succ]
            refine wpAnyH_take (i := 22) (v := .slice (some ⟨gh, 0, none⟩) n n) rfl (by kernel_rfl) (by kernel_rfl) (by kernel_rfl) (fun _ _ _ h => h) (Or.inl ⟨by rfl, fun w hSw => by obtain ⟨hS1, hS2⟩ := hSw; go_simp⟩) (by assumption) ?_
            simp only [List.getElem_toArray, List.getElem_cons_succ, List.getElem_cons_zero, Act.put, List.setIfInBounds_toArray, List.set_cons_zero, List.set_cons_succ]
            refine wpAnyH_take (i := 23) (v := .int .i64 (i : Int)) rfl (by kernel_rfl) (by kernel_rfl) (by kernel_rfl) (fun _ _ _ h => h) (Or.inl ⟨by rfl, fun w hSw => by obtain ⟨hS1, hS2⟩ := hSw; go_simp⟩) (by assumption) ?_
            simp only [List.getElem_toArray, List.getElem_cons_succ, List.getElem_cons_zero, Act.put, List.setIfInBounds_toArray, List.set_cons_zero, List.set_cons_succ]
            refine wpAnyH_take (i := 24) (v := .pointer (some ⟨gh, i, none⟩)) rfl (by kernel_rfl) (by kernel_rfl) (by kernel_rfl) (fun _ _ _ h => h) (Or.inl ⟨by rfl, fun w hSw => by obtain ⟨hS1, hS2⟩ := hSw; go_simp⟩) (by assumption) ?_
            simp only [List.getElem_toArray, List.getElem_cons_succ, List.getElem_cons_zero, Act.put, List.setIfInBounds_toArray, List.set_cons_zero, List.set_cons_succ]
            refine wpAnyH_take (i := 25) (v := .int .i64 (q' : Int)) rfl (by kernel_rfl) (by kernel_rfl) (by kernel_rfl) (fun _ _ _ h => h) (Or.inl ⟨by rfl, fun w hSw => by obtain ⟨hS1, hS2⟩ := hSw; go_simp⟩) (by assumption) ?_
            simp only [List.getElem_toArray, List.getElem_cons_succ, List.getElem_cons_zero, Act.put, List.setIfInBounds_toArray, List.set_cons_zero, List.set_cons_succ]
            refine wpAnyH_take (i := 26) (v := .bool false) rfl (by kernel_rfl) (by kernel_rfl) (by kernel_rfl) (fun _ _ _ h => h) (Or.inl ⟨by rfl, fun w hSw => by obtain ⟨hS1, hS2⟩ := hSw; go_simp⟩) (by assumption) ?_
            simp only [List.getElem_toArray, List.getElem_cons_succ, List.getElem_cons_zero, Act.put, List.setIfInBounds_toArray, List.set_cons_zero, List.set_cons_succ]
            refine wpAnyH_take (i := 27) (v := .bool false) rfl (by kernel_rfl) (by kernel_rfl) (by kernel_rfl) (fun _ _ _ h => h) (Or.inl ⟨by rfl, fun w hSw => by obtain ⟨hS1, hS2⟩ := hSw; go_simp⟩) (by assumption) ?_
            simp only [List.getElem_toArray, List.getElem_cons_succ, List.getElem_cons_zero, Act.put, List.setIfInBounds_toArray, List.set_cons_zero, List.set_cons_succ]
            refine wpAnyH_take (i := 28) (v := undef) rfl (by kernel_rfl) (by kernel_rfl) (by kernel_rfl) (fun _ _ _ h => h) (Or.inr ⟨by rfl, rfl⟩) (by assumption) ?_
            simp only [List.getElem_toArray, List.getElem_cons_succ, List.getElem_cons_zero, Act.put, List.setIfInBounds_toArray, List.set_cons_zero, List.set_cons_succ]
            refine wpAnyH_take (i := 29) (v := undef) rfl (by kernel_rfl) (by kernel_rfl) (by kernel_rfl) (fun _ _ _ h => h) (Or.inr ⟨by rfl, rfl⟩) (by assumption) ?_
            simp only [List.getElem_toArray, List.getElem_cons_succ, List.getElem_cons_zero, Act.put, List.setIfInBounds_toArray, List.set_cons_zero, List.set_cons_succ]
            refine wpAnyH_take (i := 30) (v := undef) rfl (by kernel_rfl) (by kernel_rfl) (by kernel_rfl) (fun _ _ _ h => h) (Or.inr ⟨by rfl, rfl⟩) (by assumption) ?_
            simp only [List.getElem_toArray, List.getElem_cons_succ, List.getElem_cons_zero, Act.put, List.setIfInBounds_toArray, List.set_cons_zero, List.set_cons_succ]
            refine wpAnyH_take (i := 31) (v := undef) rfl (by kernel_rfl) (by kernel_rfl) (by kernel_rfl) (fun _ _ _ h => h) (Or.inr ⟨by rfl, rfl⟩) (by assumption) ?_
            simp only [List.getElem_toArray, List.getElem_cons_succ, List.getElem_cons_zero, Act.put, List.setIfInBounds_toArray, List.set_cons_zero, List.set_cons_succ]
            refine wpAnyH_take (i := 32) (v := undef) rfl (by kernel_rfl) (by kernel_rfl) (by kernel_rfl) (fun _ _ _ h => h) (Or.inr ⟨by rfl, rfl⟩) (by assumption) ?_
            simp only [List.getElem_toArray, List.getElem_cons_succ, List.getElem_cons_zero, Act.put, List.setIfInBounds_toArray, List.set_cons_zero, List.set_cons_succ]
            refine wpAnyH_take (i := 33) (v := undef) rfl (by kernel_rfl) (by kernel_rfl) (by kernel_rfl) (fun _ _ _ h => h) (Or.inr ⟨by rfl, rfl⟩) (by assumption) ?_
            simp only [List.getElem_toArray, List.getElem_cons_succ, List.getElem_cons_zero, Act.put, List.setIfInBounds_toArray, List.set_cons_zero, List.set_cons_succ]
            refine wpAnyH_take (i := 34) (v := undef) rfl (by kernel_rfl) (by kernel_rfl) (by kernel_rfl) (fun _ _ _ h => h) (Or.inr ⟨by rfl, rfl⟩) (by assumption) ?_
            simp only [List.getElem_toArray, List.getElem_cons_succ, List.getElem_cons_zero, Act.put, List.setIfInBounds_toArray, List.set_cons_zero, List.set_cons_succ]
            refine wpAnyH_take (i := 35) (v := undef) rfl (by kernel_rfl) (by kernel_rfl) (by kernel_rfl) (fun _ _ _ h => h) (Or.inr ⟨by rfl, rfl⟩) (by assumption) ?_
            simp only [List.getElem_toArray, List.getElem_cons_succ, List.getElem_cons_zero, Act.put, List.setIfInBounds_toArray, List.set_cons_zero, List.set_cons_succ]
            refine wpAnyH_take (i := 36) (v := .bool false) rfl (by kernel_rfl) (by kernel_rfl) (by kernel_rfl) (fun _ _ _ h => h) (Or.inl ⟨by rfl, fun w hSw => by obtain ⟨hS1, hS2⟩ := hSw; go_simp⟩) (by assumption) ?_
            simp only [List.getElem_toArray, List.getElem_cons_succ, List.getElem_cons_zero, Act.put, List.setIfInBounds_toArray, List.set_cons_zero, List.set_cons_succ]
            refine wpAnyH_take (i := 37) (v := .bool false) rfl (by kernel_rfl) (by kernel_rfl) (by kernel_rfl) (fun _ _ _ h => h) (Or.inl ⟨by rfl, fun w hSw => by obtain ⟨hS1, hS2⟩ := hSw; go_simp⟩) (by assumption) ?_
            simp only [List.getElem_toArray, List.getElem_cons_succ, List.getElem_cons_zero, Act.put, List.setIfInBounds_toArray, List.set_cons_zero, List.set_cons_succ]
            refine wpAnyH_done (by kernel_rfl) ?_ _
            clear hHeld hHeld2 hHeld3
            have hc8 := (unhide HSS w8 hb8).1
            have HG8 := hide (unhide HGB w8 hb8)
            clear HSS HGB HMK hcv8 hb8
            obtain ⟨bc, hbc⟩ : ∃ bc : Nat, (b : Int) * (c : Int) = (bc : Int) := ⟨b * c, by simp⟩
            have hbcn : bc = b * c := by
              have : ((b * c : Nat) : Int) = (bc : Int) := by rw [← hbc]; simp
              omega
            have hbc4 : bc ≤ 4006000 := by
              rw [hbcn]
              exact Nat.le_trans (Nat.mul_le_mul (show b ≤ 2003 by omega) (show c ≤ 2000 by omega)) (by decide)
            obtain ⟨sN, hsN⟩ : ∃ sN : Nat, (a : Int) + (bc : Int) = (sN : Int) := ⟨a + bc, by omega⟩
            obtain ⟨r, hr⟩ : ∃ r, sN % t3 = r := ⟨_, rfl⟩
            have hr3 : r < t3 := by rw [← hr]; exact Nat.mod_lt _ (by omega)
            have hre : (sN : Int) % (t3 : Int) = (r : Int) := by rw [← hr]; simp
            have hrt : (sN : Int).tmod (t3 : Int) = (r : Int) := by rw [Int.tmod_eq_emod_of_nonneg (by omega)]; exact hre
            have HFT : Hid (fateOf a b t c = (r : Int) - 1) := by
              show fateOf a b t c = (r : Int) - 1
              unfold fateOf
              have h9 : (a + b * c) % (t + 3) = r := by rw [← hr, ← HT3.out, ← hbcn]; congr 1; omega
              rw [h9]
            have hsN4 : sN ≤ 5000000 := by omega
            have ht3n : ¬ (t3 : Int) = 0 := by omega
            clear hbcn hr
            have hbn := (Below.refl w8.heap.size w8).alloc (Nat.le_refl _) (.cells #[.int .i64 ((r : Int) - 1)] 3)
            have HGn := hide (HG8.out.below hbn)
            have hcn : (w8.alloc (.cells #[.int .i64 ((r : Int) - 1)] 3)).cell? ⟨w8.heap.size, 0, none⟩ = some (.int .i64 ((r : Int) - 1)) := by simp
            have hszn : gh + 1 ≤ (w8.alloc (.cells #[.int .i64 ((r : Int) - 1)] 3)).heap.size := by
              have := HG8.out.ga.had.lt
              simp; omega
            clear HG8 hbn
            have HOK : Hid (∀ v9 w9, OwnZ w9 (gh + 1) v9 (fsL a b t c ++ [(r : Int) - 1]) → (w8.alloc (.cells #[.int .i64 ((r : Int) - 1)] 3)).grownBy w9 (Value.slice fa c fc).ownBlock → ∃ fa' fc', v9 = .slice fa' (c + 1) fc' ∧ w9.cell? ⟨gh, i, none⟩ = some (.int .i64 (q' : Int)) ∧ Gb w w9 (B0 + (i + 1)) n p gh gw h (.slice fa' (c + 1) fc') (fsL a b t (c + 1)) (i + 1) (updF (wantL h (fateOf a b t)) i zsec)) := fun v9 w9 ho hg => by
              rw [← HFT.out, fsL_snoc] at ho
              obtain ⟨fa', fc', e, _⟩ := ho.shape
              rw [fsL_len] at e
              subst e
              have hG := HGn.out.app hg ho
              have h8 := hG.ga.cell hil
              rw [HQ.out] at h8
              exact ⟨fa', fc', rfl, h8, hG⟩
            have HCN : Hid (cntW h (i + 1) = c + 1) := by
              have := cntW_yes (h := h) (i := i) (by rw [HQ.out]; exact hq1)
              rw [HC.out] at this
              exact this
            have HFL : Hid (∀ s, (if 1 ≤ (r : Int) - 1 then markL i (min ((r : Int) - 1) (q' : Int)).toNat else zsec) = s → ∀ j, j < i + 1 → wantL h (fateOf a b t) j = updF (updF (wantL h (fateOf a b t)) i zsec) i s j) := fun s hs j hj => by
              by_cases e : j = i
              · rw [e, updF_same, ← hs]
                unfold wantL
                rw [HC.out, HFT.out, HQ.out]
                by_cases h9 : 1 ≤ (r : Int) - 1
                · rw [if_pos ⟨hq1, h9⟩, if_pos h9]
                · rw [if_neg (fun h => h9 h.2), if_neg h9]
              · rw [updF_other _ _ e, updF_other _ _ e]
            clear HFT HC HQ
            by_cases hr1 : 1 < r
            · have hrI : (0 : Int) < (r : Int) - 1 := by omega
              obtain ⟨mm, hmm⟩ : ∃ mm : Nat, min ((r : Int) - 1) (q' : Int) = (mm : Int) := ⟨(min ((r : Int) - 1) (q' : Int)).toNat, by omega⟩
              have hmm2 : mm ≤ 1000000 := by omega
              have HFM : Hid (∀ j, j < i + 1 → wantL h (fateOf a b t) j = updF (updF (wantL h (fateOf a b t)) i zsec) i (markL i mm) j) := unhide HFL _ (by rw [if_pos (by omega), hmm]; rfl)
              clear HFL
              go_wp2_with fail
              refine (unhide HMZ _).mono ?_
              rintro e w9 ⟨rfl, h9⟩
              obtain rfl := h9.symm
              go_wp2_with fail
              refine (unhide HMU _).mono ?_
              rintro e w9 ⟨rfl, h9⟩
              obtain rfl := h9.symm
              go_wp2_with (first
                | (at_builtin; refine wpList_appO rfl (.tmp 158) (.tmp 161) rfl rfl HGn.out.ft rfl hcn (by rw [fsL_len]; omega) hszn ?_; intro v9 w9 hr9 hg9
                   obtain ⟨fa', fc', rfl, hc9, hG9⟩ := unhide HOK v9 w9 hr9 hg9
                   have HG9 := hide hG9
                   clear hG9 hr9 hg9 HOK HGn hcn hszn hc8))
              refine (mark_calls (w := w9) (n := i) (j := mm) (by omega) hmm2).mono ?_
              rintro e w10 ⟨g10, rfl, _, hu10, hb10⟩
              have hG10 := HG9.out.below hb10
              obtain ⟨z10, hz10⟩ := hG10.wt.some hil
              have hf10 := hG10.wt.frozen i
              have HG11 := hide ((hG10.put (k2 := i + 1) hil (hu10.mono (Nat.zero_le _)) (fun j hj => by omega)).ext HFM.out)
              clear hG10 hu10 hb10 HG9 HFM hc9
              go_wp2
              go_roundw
              case rel => exact ⟨i + 1, c + 1, fa', fc', by omega, rfl, by go_num, HCN, HG11⟩
              case measure => simp [intOf]; omega
            · have hrI : ¬ (0 : Int) < (r : Int) - 1 := by omega
              have HFM : Hid (∀ j, j < i + 1 → wantL h (fateOf a b t) j = updF (wantL h (fateOf a b t)) i zsec j) := fun j hj => by
                rw [unhide HFL zsec (by rw [if_neg (by omega)]) j hj]
                by_cases e : j = i
                · rw [e, updF_same, updF_same]
                · rw [updF_other _ _ e]
              clear HFL
              go_wp2_with fail
              refine (unhide HMZ _).mono ?_
              rintro e w9 ⟨rfl, h9⟩
              obtain rfl := h9.symm
              go_wp2_with fail
              refine (unhide HMU _).mono ?_
              rintro e w9 ⟨rfl, h9⟩
              obtain rfl := h9.symm
              go_wp2_with (first
                | (at_builtin; refine wpList_appO rfl (.tmp 158) (.tmp 161) rfl rfl HGn.out.ft rfl hcn (by rw [fsL_len]; omega) hszn ?_; intro v9 w9 hr9 hg9
                   obtain ⟨fa', fc', rfl, hc9, hG9⟩ := unhide HOK v9 w9 hr9 hg9
                   have HG9 := hide (hG9.ext HFM.out)
                   clear hG9 hr9 hg9 HOK HGn hcn hszn hc8))
              go_roundw
              case rel => exact ⟨i + 1, c + 1, fa', fc', by omega, rfl, by go_num, HCN, HG9⟩
              case measure => simp [intOf]; omega
        · have hie : i = n := by omega
          have HE : Hid (Gc (fun b => b < w.heap.size) w wr (B0 + n) n p gw (.slice fa c fc) (fsL a b t c) (wantL h (fateOf a b t)) (fun D => Bef D n (wantL h (fateOf a b t)) (fsL a b t c))) := by
            have h1 := HI.out
            have h2 := HC.out
            rw [hie] at h1 h2
            subst h2
            exact h1.over
          have HBD : Hid (∀ x ∈ fsL a b t c, -9223372036854775808 ≤ x ∧ x ≤ 9223372036854775807) := fsL_bd ht2
          clear HI HC HMZ HMU HLE HT3 hza hub ht2e ht3e ht33 hie h80 h81 h82 h8i
          generalize wantL h (fateOf a b t) = F at *
          generalize fsL a b t c = fs at *
          go_wp2
          rename World => w4
          go_loopw [21] (fun kv wr => ∃ k : Nat, k ≤ 2 ∧ kv = .int .i64 (k : Int) ∧ Hid (Gc (fun b => b < w.heap.size) w wr (B0 + n + k * n) n p gw (.slice fa c fc) fs F (fun D => Bef D n F fs))) (fun kv _ => 2 - (intOf kv).toNat)
          case atStart => exact ⟨0, by omega, rfl, by rw [Nat.zero_mul]; exact HE⟩
          case round =>
            clear HE
            obtain ⟨k, hk, rfl, HE⟩ := hrel
            by_cases hk2 : k < 2
            · have hBk : B0 + n + k * n ≤ 100000 := by
                have := Nat.mul_le_mul (show k ≤ 2 by omega) (show n ≤ 2000 by omega)
                omega
              have HKN : Hid (B0 + n + k * n + n = B0 + n + (k + 1) * n) := by
                show B0 + n + k * n + n = B0 + n + (k + 1) * n
                rw [Nat.succ_mul]; omega
              generalize B0 + n + k * n = Bk at *
              go_wp2_with fail
              refine (HE.out.crash (by omega) HBD.out).mono ?_
              rintro e w6 ⟨rfl, hG6⟩
              have HG6 := hide hG6
              clear hG6 HE
              go_wp2_with fail
              refine (HG6.out.image).mono ?_
              rintro e w7 ⟨gi, rfl, hG7⟩
              have HG7 := hide hG7
              clear hG7 HG6
              go_wp2
              go_loopw [23] (fun iv wr => ∃ i : Nat, i ≤ n ∧ iv = .int .i64 (i : Int) ∧ Hid (Gi (fun b => b < w.heap.size) w w6 w7 wr (Bk + i) n p gw gi (.slice fa c fc) fs F)) (fun iv _ => n - (intOf iv).toNat)
              case atStart => exact ⟨0, by omega, rfl, HG7⟩
              case round =>
                clear HG7
                obtain ⟨i, hin, rfl, HI⟩ := hrel
                by_cases hil : i < n
                · have hBi : Bk + i ≤ 1000000000 := by omega
                  go_wp2_with fail
                  refine (HI.out.read hil hBi).mono ?_
                  rintro e w9 ⟨gr, rfl, hI9, hG9⟩
                  obtain ⟨⟨gj, hj1, hj2⟩, u0, hu1, hu2⟩ := hG9.cells hil
                  obtain ⟨ua, un, uc, rfl⟩ := hu2.shape
                  have HSS : Hid (∀ W, Below w9.heap.size w9 W → W.cell? ⟨gw, i, none⟩ = some (.slice ua un uc) ∧ W.cell? ⟨gi, i, none⟩ = some (.slice (some ⟨gj, 0, none⟩) 512 512) ∧ (convert 23 9 (.slice (some ⟨gr, 0, none⟩) 512 512)).run Try.prog W = .ok (.string (mkS (F i))) W ∧ (convert 23 9 (.slice ua un uc)).run Try.prog W = .ok (.string (mkS (F i))) W ∧ (convert 23 9 (.slice (some ⟨gj, 0, none⟩) 512 512)).run Try.prog W = .ok (.string (mkS (F i))) W) := fun W hW =>
                    ⟨(hW.cell (p := ⟨gw, i, none⟩) (World.block_lt_of_cell? w9 _ hu1)).trans hu1, (hW.cell (p := ⟨gi, i, none⟩) (World.block_lt_of_cell? w9 _ hj1)).trans hj1, conv_isB (hI9.below hW), conv_isB (hu2.below hW).isB, conv_isB (hj2.below hW)⟩
                  have HG9 := hide (hG9.below (Below.refl _ _).drew)
                  clear hI9 hG9 hj1 hj2 hu1 hu2 HI
                  generalize mkS (F i) = st at *
                  go_wp2_with fail
                  refine wp_region_held_drew (S := fun W => W.cell? ⟨gw, i, none⟩ = some (.slice ua un uc) ∧ W.cell? ⟨gi, i, none⟩ = some (.slice (some ⟨gj, 0, none⟩) 512 512) ∧ (convert 23 9 (.slice (some ⟨gr, 0, none⟩) 512 512)).run Try.prog W = .ok (.string st) W ∧ (convert 23 9 (.slice ua un uc)).run Try.prog W = .ok (.string st) W ∧ (convert 23 9 (.slice (some ⟨gj, 0, none⟩) 512 512)).run Try.prog W = .ok (.string st) W) (by kernel_rfl) (unhide HSS _ (Below.refl _ _).drew) (fun hHeld => ?_)
                  refine wpAnyH_take (i := 0) (v := .int .i64 0) rfl (by kernel_rfl) (by kernel_rfl) (by kernel_rfl) (fun _ _ _ h => h) (Or.inl ⟨by rfl, fun w hSw => by obtain ⟨hS1, hS2, hS3, hS4, hS5⟩ := hSw; go_simp⟩) (by assumption) ?_
                  simp only [List.getElem_toArray, List.getElem_cons_zero, Act.put, List.setIfInBounds_toArray, List.set_cons_zero, List.set_cons_succ]
                  refine wpAnyH_take (i := 1) (v := .bool false) rfl (by kernel_rfl) (by kernel_rfl) (by kernel_rfl) (fun _ _ _ h => h) (Or.inl ⟨by rfl, fun w hSw => by obtain ⟨hS1, hS2, hS3, hS4, hS5⟩ := hSw; go_simp⟩) (by assumption) ?_
                  simp only [List.getElem_toArray, List.getElem_cons_succ, List.getElem_cons_zero, Act.put, List.setIfInBounds_toArray, List.set_cons_zero, List.set_cons_succ]
                  refine wpAnyH_take (i := 2) (v := .bool false) rfl (by kernel_rfl) (by kernel_rfl) (by kernel_rfl) (fun _ _ _ h => h) (Or.inl ⟨by rfl, fun w hSw => by obtain ⟨hS1, hS2, hS3, hS4, hS5⟩ := hSw; go_simp⟩) (by assumption) ?_
                  simp only [List.getElem_toArray, List.getElem_cons_succ, List.getElem_cons_zero, Act.put, List.setIfInBounds_toArray, List.set_cons_zero, List.set_cons_succ]
                  refine wpAnyH_take (i := 3) (v := .slice (some ⟨gr, 0, none⟩) 512 512) rfl (by kernel_rfl) (by kernel_rfl) (by kernel_rfl) (fun _ _ _ h => h) (Or.inl ⟨by rfl, fun w hSw => by obtain ⟨hS1, hS2, hS3, hS4, hS5⟩ := hSw; go_simp⟩) (by assumption) ?_
                  simp only [List.getElem_toArray, List.getElem_cons_succ, List.getElem_cons_zero, Act.put, List.setIfInBounds_toArray, List.set_cons_zero, List.set_cons_succ]
                  refine wpAnyH_take (i := 4) (v := .string st) rfl (by kernel_rfl) (by kernel_rfl) (by kernel_rfl) (fun _ _ _ h => h) (Or.inl ⟨by rfl, fun w hSw => by obtain ⟨hS1, hS2, hS3, hS4, hS5⟩ := hSw; go_simp⟩) (by assumption) ?_
                  simp only [List.getElem_toArray, List.getElem_cons_succ, List.getElem_cons_zero, Act.put, List.setIfInBounds_toArray, List.set_cons_zero, List.set_cons_succ]
                  refine wpAnyH_take (i := 5) (v := .slice (some ⟨gw, 0, none⟩) n n) rfl (by kernel_rfl) (by kernel_rfl) (by kernel_rfl) (fun _ _ _ h => h) (Or.inl ⟨by rfl, fun w hSw => by obtain ⟨hS1, hS2, hS3, hS4, hS5⟩ := hSw; go_simp⟩) (by assumption) ?_
                  simp only [List.getElem_toArray, List.getElem_cons_succ, List.getElem_cons_zero, Act.put, List.setIfInBounds_toArray, List.set_cons_zero, List.set_cons_succ]
                  refine wpAnyH_take (i := 6) (v := .int .i64 (i : Int)) rfl (by kernel_rfl) (by kernel_rfl) (by kernel_rfl) (fun _ _ _ h => h) (Or.inl ⟨by rfl, fun w hSw => by obtain ⟨hS1, hS2, hS3, hS4, hS5⟩ := hSw; go_simp⟩) (by assumption) ?_
                  simp only [List.getElem_toArray, List.getElem_cons_succ, List.getElem_cons_zero, Act.put, List.setIfInBounds_toArray, List.set_cons_zero, List.set_cons_succ]
                  refine wpAnyH_take (i := 7) (v := .pointer (some ⟨gw, i, none⟩)) rfl (by kernel_rfl) (by kernel_rfl) (by kernel_rfl) (fun _ _ _ h => h) (Or.inl ⟨by rfl, fun w hSw => by obtain ⟨hS1, hS2, hS3, hS4, hS5⟩ := hSw; go_simp⟩) (by assumption) ?_
                  simp only [List.getElem_toArray, List.getElem_cons_succ, List.getElem_cons_zero, Act.put, List.setIfInBounds_toArray, List.set_cons_zero, List.set_cons_succ]
                  refine wpAnyH_take (i := 8) (v := .slice ua un uc) rfl (by kernel_rfl) (by kernel_rfl) (by kernel_rfl) (fun _ _ _ h => h) (Or.inl ⟨by rfl, fun w hSw => by obtain ⟨hS1, hS2, hS3, hS4, hS5⟩ := hSw; go_simp⟩) (by assumption) ?_
                  simp only [List.getElem_toArray, List.getElem_cons_succ, List.getElem_cons_zero, Act.put, List.setIfInBounds_toArray, List.set_cons_zero, List.set_cons_succ]
                  refine wpAnyH_take (i := 9) (v := .string st) rfl (by kernel_rfl) (by kernel_rfl) (by kernel_rfl) (fun _ _ _ h => h) (Or.inl ⟨by rfl, fun w hSw => by obtain ⟨hS1, hS2, hS3, hS4, hS5⟩ := hSw; go_simp⟩) (by assumption) ?_
                  simp only [List.getElem_toArray, List.getElem_cons_succ, List.getElem_cons_zero, Act.put, List.setIfInBounds_toArray, List.set_cons_zero, List.set_cons_succ]
                  refine wpAnyH_take (i := 10) (v := .bool false) rfl (by kernel_rfl) (by kernel_rfl) (by kernel_rfl) (fun _ _ _ h => h) (Or.inl ⟨by rfl, fun w hSw => by obtain ⟨hS1, hS2, hS3, hS4, hS5⟩ := hSw; go_simp⟩) (by assumption) ?_
                  simp only [List.getElem_toArray, List.getElem_cons_succ, List.getElem_cons_zero, Act.put, List.setIfInBounds_toArray, List.set_cons_zero, List.set_cons_succ]
                  refine wpAnyH_take (i := 11) (v := .bool false) rfl (by kernel_rfl) (by kernel_rfl) (by kernel_rfl) (fun _ _ _ h => h) (Or.inl ⟨by rfl, fun w hSw => by obtain ⟨hS1, hS2, hS3, hS4, hS5⟩ := hSw; go_simp⟩) (by assumption) ?_
                  simp only [List.getElem_toArray, List.getElem_cons_succ, List.getElem_cons_zero, Act.put, List.setIfInBounds_toArray, List.set_cons_zero, List.set_cons_succ]
                  refine wpAnyH_take (i := 12) (v := .bool false) rfl (by kernel_rfl) (by kernel_rfl) (by kernel_rfl) (fun _ _ _ h => h) (Or.inl ⟨by rfl, fun w hSw => by obtain ⟨hS1, hS2, hS3, hS4, hS5⟩ := hSw; go_simp⟩) (by assumption) ?_
                  simp only [List.getElem_toArray, List.getElem_cons_succ, List.getElem_cons_zero, Act.put, List.setIfInBounds_toArray, List.set_cons_zero, List.set_cons_succ]
                  refine wpAnyH_take (i := 13) (v := .slice (some ⟨gi, 0, none⟩) n n) rfl (by kernel_rfl) (by kernel_rfl) (by kernel_rfl) (fun _ _ _ h => h) (Or.inl ⟨by rfl, fun w hSw => by obtain ⟨hS1, hS2, hS3, hS4, hS5⟩ := hSw; go_simp⟩) (by assumption) ?_
                  simp only [List.getElem_toArray, List.getElem_cons_succ, List.getElem_cons_zero, Act.put, List.setIfInBounds_toArray, List.set_cons_zero, List.set_cons_succ]
                  refine wpAnyH_take (i := 14) (v := .int .i64 (i : Int)) rfl (by kernel_rfl) (by kernel_rfl) (by kernel_rfl) (fun _ _ _ h => h) (Or.inl ⟨by rfl, fun w hSw => by obtain ⟨hS1, hS2, hS3, hS4, hS5⟩ := hSw; go_simp⟩) (by assumption) ?_
                  simp only [List.getElem_toArray, List.getElem_cons_succ, List.getElem_cons_zero, Act.put, List.setIfInBounds_toArray, List.set_cons_zero, List.set_cons_succ]
                  refine wpAnyH_take (i := 15) (v := .pointer (some ⟨gi, i, none⟩)) rfl (by kernel_rfl) (by kernel_rfl) (by kernel_rfl) (fun _ _ _ h => h) (Or.inl ⟨by rfl, fun w hSw => by obtain ⟨hS1, hS2, hS3, hS4, hS5⟩ := hSw; go_simp⟩) (by assumption) ?_
                  simp only [List.getElem_toArray, List.getElem_cons_succ, List.getElem_cons_zero, Act.put, List.setIfInBounds_toArray, List.set_cons_zero, List.set_cons_succ]
                  refine wpAnyH_take (i := 16) (v := .slice (some ⟨gj, 0, none⟩) 512 512) rfl (by kernel_rfl) (by kernel_rfl) (by kernel_rfl) (fun _ _ _ h => h) (Or.inl ⟨by rfl, fun w hSw => by obtain ⟨hS1, hS2, hS3, hS4, hS5⟩ := hSw; go_simp⟩) (by assumption) ?_
                  simp only [List.getElem_toArray, List.getElem_cons_succ, List.getElem_cons_zero, Act.put, List.setIfInBounds_toArray, List.set_cons_zero, List.set_cons_succ]
                  refine wpAnyH_take (i := 17) (v := .string st) rfl (by kernel_rfl) (by kernel_rfl) (by kernel_rfl) (fun _ _ _ h => h) (Or.inl ⟨by rfl, fun w hSw => by obtain ⟨hS1, hS2, hS3, hS4, hS5⟩ := hSw; go_simp⟩) (by assumption) ?_
                  simp only [List.getElem_toArray, List.getElem_cons_succ, List.getElem_cons_zero, Act.put, List.setIfInBounds_toArray, List.set_cons_zero, List.set_cons_succ]
                  refine wpAnyH_take (i := 18) (v := .slice (some ⟨gw, 0, none⟩) n n) rfl (by kernel_rfl) (by kernel_rfl) (by kernel_rfl) (fun _ _ _ h => h) (Or.inl ⟨by rfl, fun w hSw => by obtain ⟨hS1, hS2, hS3, hS4, hS5⟩ := hSw; go_simp⟩) (by assumption) ?_
                  simp only [List.getElem_toArray, List.getElem_cons_succ, List.getElem_cons_zero, Act.put, List.setIfInBounds_toArray, List.set_cons_zero, List.set_cons_succ]
                  refine wpAnyH_take (i := 19) (v := .int .i64 (i : Int)) rfl (by kernel_rfl) (by kernel_rfl) (by kernel_rfl) (fun _ _ _ h => h) (Or.inl ⟨by rfl, fun w hSw => by obtain ⟨hS1, hS2, hS3, hS4, hS5⟩ := hSw; go_simp⟩) (by assumption) ?_
                  simp only [List.getElem_toArray, List.getElem_cons_succ, List.getElem_cons_zero, Act.put, List.setIfInBounds_toArray, List.set_cons_zero, List.set_cons_succ]
                  refine wpAnyH_take (i := 20) (v := .pointer (some ⟨gw, i, none⟩)) rfl (by kernel_rfl) (by kernel_rfl) (by kernel_rfl) (fun _ _ _ h => h) (Or.inl ⟨by rfl, fun w hSw => by obtain ⟨hS1, hS2, hS3, hS4, hS5⟩ := hSw; go_simp⟩) (by assumption) ?_
                  simp only [List.getElem_toArray, List.getElem_cons_succ, List.getElem_cons_zero, Act.put, List.setIfInBounds_toArray, List.set_cons_zero, List.set_cons_succ]
                  refine wpAnyH_take (i := 21) (v := .slice ua un uc) rfl (by kernel_rfl) (by kernel_rfl) (by kernel_rfl) (fun _ _ _ h => h) (Or.inl ⟨by rfl, fun w hSw => by obtain ⟨hS1, hS2, hS3, hS4, hS5⟩ := hSw; go_simp⟩) (by assumption) ?_
                  simp only [List.getElem_toArray, List.getElem_cons_succ, List.getElem_cons_zero, Act.put, List.setIfInBounds_toArray, List.set_cons_zero, List.set_cons_succ]
                  refine wpAnyH_take (i := 22) (v := .string st) rfl (by kernel_rfl) (by kernel_rfl) (by kernel_rfl) (fun _ _ _ h => h) (Or.inl ⟨by rfl, fun w hSw => by obtain ⟨hS1, hS2, hS3, hS4, hS5⟩ := hSw; go_simp⟩) (by assumption) ?_
                  simp only [List.getElem_toArray, List.getElem_cons_succ, List.getElem_cons_zero, Act.put, List.setIfInBounds_toArray, List.set_cons_zero, List.set_cons_succ]
                  refine wpAnyH_take (i := 23) (v := .bool false) rfl (by kernel_rfl) (by kernel_rfl) (by kernel_rfl) (fun _ _ _ h => h) (Or.inl ⟨by rfl, fun w hSw => by obtain ⟨hS1, hS2, hS3, hS4, hS5⟩ := hSw; go_simp⟩) (by assumption) ?_
                  simp only [List.getElem_toArray, List.getElem_cons_succ, List.getElem_cons_zero, Act.put, List.setIfInBounds_toArray, List.set_cons_zero, List.set_cons_succ]
                  refine wpAnyH_take (i := 24) (v := .bool false) rfl (by kernel_rfl) (by kernel_rfl) (by kernel_rfl) (fun _ _ _ h => h) (Or.inl ⟨by rfl, fun w hSw => by obtain ⟨hS1, hS2, hS3, hS4, hS5⟩ := hSw; go_simp⟩) (by assumption) ?_
                  simp only [List.getElem_toArray, List.getElem_cons_succ, List.getElem_cons_zero, Act.put, List.setIfInBounds_toArray, List.set_cons_zero, List.set_cons_succ]
                  refine wpAnyH_done (by kernel_rfl) ?_ _
                  clear hHeld
                  clear HSS
                  generalize w9.drew = w10 at *
                  go_wp2
                  go_roundw
                  case rel => exact ⟨i + 1, by omega, by go_num, HG9⟩
                  case measure => simp [intOf]; omega
                · have hie : i = n := by omega
                  have HN : Hid (Gc (fun b => b < w.heap.size) w wr (B0 + n + (k + 1) * n) n p gw (.slice fa c fc) fs F (fun D => Bef D n F fs)) := by
                    have h1 := HI.out
                    rw [hie, HKN.out] at h1
                    exact h1.back
                  clear HI hie
                  go_wp2
                  go_roundw
                  case rel => exact ⟨k + 1, by omega, by go_num, HN⟩
                  case measure => simp [intOf]; omega
            · have hbe : Below w.heap.size w wr := by
                obtain ⟨G, D, h1, h2⟩ := HE.out.dk
                exact up_below h1.kp
              clear HE
              go_wp2
              go_ret
              exact ⟨rfl, hbe⟩
end Go.Proofs.Ytfgjhlnaaopdeab
