/- among: what it was, or one of the writes to that sector. -/
import Derived.Test.YtfgjhlnaaopdeaaOtJ
namespace Go.Proofs.Ytfgjhlnaaopdeaa
open Go.RowKit Go.Maps

theorem drewn_b (w : World) (n : Nat) : Below w.heap.size w (w.drewN n) := ⟨rfl, rfl, rfl, Nat.le_refl _, fun _ _ => rfl⟩
set_option maxRecDepth 100000 in
set_option maxHeartbeats 2000000 in
theorem among_calls {w : World} {vb vw vl : Value} {b was : List Int} {L : Ats} {i : Nat} (hb : IsB w vb b) (hw : IsB w vw was) (hL : IsWs w vl L) (h : b = was ∨ ((i : Int), b) ∈ L) :
    Calls Try.prog 24 #[vb, vw, vl, .int .i64 (i : Int)] w fun e w' => e = .returned (.bool true) ∧ Below w.heap.size w w' := by
  obtain ⟨ba, bn, bc, rfl⟩ := hb.shape
  obtain ⟨wa, wn, wc, rfl⟩ := hw.shape
  obtain ⟨la, lc, rfl, hsh⟩ := hL.shape
  have hcb := conv_isB hb
  have hcw := conv_isB hw
  have HCB : Hid (∀ W, Below w.heap.size w W → (convert 27 9 (.slice ba bn bc)).run Try.prog W = .ok (.string (mkS b)) W) := fun W hW => conv_isB (hb.below hW)
  have HL := hide hL
  have HE : Hid (mkS b ≠ mkS was → ((i : Int), b) ∈ L.drop 0) := fun hne => by
    rcases h with h | h
    · exact absurd (congrArg mkS h) hne
    · exact h
  have HDR : Hid (∀ k, k < L.length → ((i : Int), b) ∈ L.drop k → ((i : Int), b) = L.getD k dA ∨ ((i : Int), b) ∈ L.drop (k + 1)) := fun k hk hm => by
    rw [List.drop_eq_getElem_cons hk] at hm
    rw [getD_eq hk]
    exact List.mem_cons.1 hm
  have HEND : Hid (¬ ((i : Int), b) ∈ L.drop L.length) := by rw [List.drop_length]; simp [Hid]
  clear hb hw hL h
  generalize hm : L.length = m at *
  have HM := hide hm
  clear hm
  have HCV : Hid (∀ W u s, IsB W u s → (convert 27 9 u).run Try.prog W = .ok (.string (mkS s)) W) := fun W u s hu => conv_isB hu
  generalize hsb : mkS b = sb at *
  generalize hsw : mkS was = sw at *
  by_cases he : (sb.toList == sw.toList) = true
  · clear hsb hsw
    go_enter Try.func24, Try.ntmps24
    go_wp2
    go_ret
    exact ⟨rfl, Below.refl _ _⟩
  · have HI := hide (unhide HE (fun h => he (by rw [h]; exact beq_self_eq_true _)))
    have he2 : (sb.toList == sw.toList) = false := by simpa using he
    clear he
    have HSB := hide hsb
    clear HE hsb hsw
    go_enter Try.func24, Try.ntmps24
    go_wp2
    go_loopw [9] (fun kv wr => ∃ k : Nat, k ≤ m ∧ kv = .int .i64 (k : Int) ∧ Below w.heap.size w wr ∧ Hid (((i : Int), b) ∈ L.drop k)) (fun kv _ => m - (intOf kv).toNat)
    case atStart => exact ⟨0, by omega, rfl, Below.refl _ _, HI⟩
    case round =>
      clear HI
      obtain ⟨k, hk, rfl, hbel, HI⟩ := hrel
      by_cases hlt : k < m
      · obtain ⟨g, rfl, hle, hcm⟩ := hsh (by omega)
        obtain ⟨u, hc1, hc2, hu⟩ := (HL.out.below hbel).elem (j := k) (by rw [HM.out]; exact hlt)
        obtain ⟨ua, un, uc, rfl⟩ := hu.isB.shape
        have hor := unhide HDR k hlt HI.out
        have hcu := unhide HCV wr _ _ hu.isB
        have hcb2 := unhide HCB wr hbel
        have HSS : Hid (∀ W, Below wr.heap.size wr W → W.cell? ⟨g, k * 2, none⟩ = some (.int .i64 (L.getD k dA).1) ∧ W.cell? ⟨g, k * 2 + 1, none⟩ = some (.slice ua un uc) ∧ (convert 27 9 (.slice ua un uc)).run Try.prog W = .ok (.string (mkS (L.getD k dA).2)) W ∧ (convert 27 9 (.slice ba bn bc)).run Try.prog W = .ok (.string sb) W) := fun W hW => by
          have hg := World.block_lt_of_cell? wr _ hc1
          exact ⟨(hW.cell (p := ⟨g, k * 2, none⟩) hg).trans hc1, (hW.cell (p := ⟨g, k * 2 + 1, none⟩) hg).trans hc2, unhide HCV W _ _ (hu.isB.below hW), unhide HCB W (hbel.trans (hW.mono hbel.size))⟩
        have HOR : Hid (¬ ((L.getD k dA).1 = (i : Int) ∧ mkS (L.getD k dA).2 = sb) → ((i : Int), b) ∈ L.drop (k + 1)) := fun hn => by
          rcases hor with hor | hor
          · exact absurd ⟨by rw [← hor], by rw [← hor]; exact HSB.out⟩ hn
          · exact hor
        have HB := hide hbel
        clear hor hu hbel hcu hcb2
        generalize (L.getD k dA).1 = y at *
        generalize mkS (L.getD k dA).2 = sy at *
        by_cases hy : y = (i : Int)
        · have hdy : decide (y = (i : Int)) = true := by simpa using hy
          subst hy
          by_cases hs : (sy.toList == sb.toList) = true
          · go_wp2_with fail
            focus (go_region_held3 (fun W => W.cell? ⟨g, k * 2, none⟩ = some (.int .i64 (i : Int)) ∧ W.cell? ⟨g, k * 2 + 1, none⟩ = some (.slice ua un uc) ∧ (convert 27 9 (.slice ua un uc)).run Try.prog W = .ok (.string sy) W ∧ (convert 27 9 (.slice ba bn bc)).run Try.prog W = .ok (.string sb) W)
              ((exact unhide HSS _ (Below.refl _ _).drew)) (fail))
            go_wp2
            go_ret
            exact ⟨rfl, HB.out.drew⟩
          · have HN := hide (unhide HOR (fun h => hs (by rw [h.2]; exact beq_self_eq_true _)))
            have hs2 : (sy.toList == sb.toList) = false := by simpa using hs
            clear hs
            go_wp2_with fail
            focus (go_region_held3 (fun W => W.cell? ⟨g, k * 2, none⟩ = some (.int .i64 (i : Int)) ∧ W.cell? ⟨g, k * 2 + 1, none⟩ = some (.slice ua un uc) ∧ (convert 27 9 (.slice ua un uc)).run Try.prog W = .ok (.string sy) W ∧ (convert 27 9 (.slice ba bn bc)).run Try.prog W = .ok (.string sb) W)
              ((exact unhide HSS _ (Below.refl _ _).drew)) (fail))
            go_wp2
            go_roundw
            case rel => exact ⟨k + 1, by omega, by go_num, HB.out.drew, HN⟩
            case measure => simp [intOf]; omega
        · have HN := hide (unhide HOR (fun h => hy h.1))
          have hdy : decide (y = (i : Int)) = false := by simpa using hy
          obtain ⟨x1, x2, _, _⟩ := unhide HSS wr (Below.refl _ _)
          go_wp2_with fail
          go_quiet (fail)
          go_wp2
          go_roundw
          case rel => exact ⟨k + 1, by omega, by go_num, HB.out.trans ((drewn_b wr nq).mono HB.out.size), HN⟩
          case measure => simp [intOf]; omega
      · have hkm : k = m := by omega
        subst hkm
        exact absurd HI.out HEND.out
end Go.Proofs.Ytfgjhlnaaopdeaa
