/- stand of WireOwn. -/
import Derived.Test.YteabmambidafpaaDoorFilled
namespace Go.Proofs.YteabmambidafpaaDoor
open Go.RowKit

theorem mk_val (i : Nat) : mk i = 1 + (i : Int) % 250 := by unfold mk; omega
theorem tm_val (i : Nat) : tm i = 251 + (i : Int) % 5 := by unfold tm; omega
/-- A byte of a row, by its place. -/
theorem Row.byteAt {w : World} {B g n c : Nat} {m t : Value} {k z j : Nat} (h : Row w B 5 (.slice (some ⟨g, 0, none⟩) n c) (longer m t k z)) (hj : j < k + z) : w.cell? ⟨g, j, none⟩ = some (if j < k then m else t) := by
  rw [h.cellAt (by rw [longer_len]; exact hj), longer_at m t hj]

set_option maxRecDepth 100000 in
set_option maxHeartbeats 4000000 in
theorem stand_calls {w : World} {B B2 S gl n cl : Nat} {us ms : List Value} {vm : Value} {U : Nat → Value} {L : Nat → Nat} {X : Nat → List Value} (hn : n ≤ 1000) (hn0 : 0 < n) (hus : us.length = n) (hU : ∀ k, k < n → us[k]? = some (U k)) (hLm : ∀ k, k < n → L k ≤ 140737488355000)
    (hl : Row w B 23 (.slice (some ⟨gl, 0, none⟩) n cl) us) (hms : ms.length = 3 * n) (hm : Row w B2 23 vm ms) (hR : Lines w B S 5 U (Rf L X n) n) (hlg : Long3 w B S U L ms n) :
    Calls Tryd.prog 10 #[.slice (some ⟨gl, 0, none⟩) n cl, vm] w fun e w' => e = .returned (.bool true) ∧ w' = w := by
  obtain ⟨gm, cm, rfl, hcm, hcm2, _, _⟩ := hm.head (by omega)
  obtain ⟨gl2, cl2, hv, hcl1, hcl2, _, _⟩ := hl.head (by omega)
  injection hv with e1 e2 e3
  injection e1 with e1
  injection e1 with e1
  subst e1 e3
  rw [hus] at hcl1
  rw [hms] at hcm hm ⊢
  have HL : Hid (∀ i, i < n → ∃ a c, w.cell? ⟨gl, i, none⟩ = some (.slice a (L i) c) ∧ L i ≤ 140737488355000 ∧ (0 < L i → L i ≤ c ∧ c ≤ 9223372036854775807 ∧ ∃ g, a = some ⟨g, 0, none⟩ ∧ ∀ j, j < L i → w.cell? ⟨g, j, none⟩ = some (.int .u8 (1 + (i : Int) % 250)))) := fun i hi => by
    have hr := hR.row i hi
    rw [Rf_lt hi] at hr
    obtain ⟨a, c, hu⟩ := hr.shape
    rw [List.length_replicate] at hu
    refine ⟨a, c, by rw [hl.cellAt (by rw [hus]; exact hi), hU i hi, hu], hLm i hi, fun h0 => ?_⟩
    obtain ⟨g, c2, hv, h1, h2, _, _⟩ := hr.head (by simpa using h0)
    rw [List.length_replicate] at hv h1
    rw [hu] at hv
    injection hv with e1 e2 e3
    subst e1 e3
    refine ⟨h1, h2, g, rfl, fun j hj => ?_⟩
    rw [hu] at hr
    rw [hr.cellAt (by simpa using hj), List.getElem?_replicate, if_pos hj, ← mk_val]
    rfl
  have HM : Hid (∀ i, i < n → ∀ s, s < 3 → ∃ g c, w.cell? ⟨gm, 3 * i + s, none⟩ = some (.slice (some ⟨g, 0, none⟩) (L i + zz s) c) ∧ L i + zz s ≤ c ∧ c ≤ 9223372036854775807 ∧ (∀ j, j < L i → w.cell? ⟨g, j, none⟩ = some (.int .u8 (1 + (i : Int) % 250))) ∧ (∀ j, ¬ j < L i → j < L i + zz s → w.cell? ⟨g, j, none⟩ = some (.int .u8 (251 + (i : Int) % 5)))) := fun i hi s hs => by
    obtain ⟨u, h1, h2, _⟩ := hlg i hi s hs
    have hz : 0 < zz s := by unfold zz; split <;> (try split) <;> omega
    obtain ⟨g, c, rfl, h3, h4, _, _⟩ := h2.head (by rw [longer_len]; omega)
    rw [longer_len] at h1 h2 h3
    have hms' : 3 * i + s < ms.length := by omega
    refine ⟨g, c, by rw [hm.cellAt hms', h1], h3, h4, fun j hj => ?_, fun j hj hj2 => ?_⟩
    · rw [h2.byteAt (by omega), if_pos hj, ← mk_val]; rfl
    · rw [h2.byteAt (by omega), if_neg hj, ← tm_val]; rfl
  clear hl hm hR hlg hU hLm hus hms e2
  go_enter Tryd.func10, Tryd.ntmps10
  go_wp2
  go_loop [5] (fun iv => ∃ (i : Nat), i ≤ n ∧ iv = .int .i64 (i : Int)) (fun i => n - (intOf i).toNat)
  case atStart => exact ⟨0, by omega, rfl⟩
  case round =>
    obtain ⟨i, hin, rfl⟩ := hrel
    by_cases hlt : i < n
    · obtain ⟨a, c, hc, hmb, hLL⟩ := unhide HL i hlt
      obtain ⟨g0, c0, h0, h0c, h0m, _, _⟩ := unhide HM i hlt 0 (by decide)
      obtain ⟨g1, c1, h1, h1c, h1m, _, _⟩ := unhide HM i hlt 1 (by decide)
      obtain ⟨g2, c2, h2, h2c, h2m, _, _⟩ := unhide HM i hlt 2 (by decide)
      have HMi := hide (unhide HM i hlt)
      obtain ⟨m, hm⟩ : ∃ m, m = L i := ⟨_, rfl⟩
      rw [← hm] at hc h0 h1 h2 hmb hLL HMi h0c h1c h2c
      replace h0 : w.cell? ⟨gm, 3 * i, none⟩ = some (.slice (some ⟨g0, 0, none⟩) (m + 1) c0) := h0
      replace h1 : w.cell? ⟨gm, 3 * i + 1, none⟩ = some (.slice (some ⟨g1, 0, none⟩) (m + 2) c1) := h1
      replace h2 : w.cell? ⟨gm, 3 * i + 2, none⟩ = some (.slice (some ⟨g2, 0, none⟩) (m + 70) c2) := h2
      have HLL := hide hLL
      clear hm hLL HM HL h0c h0m h1c h1m h2c h2m
      go_wp2
      go_loop [7] (fun qv => ∃ (s : Nat), s ≤ 3 ∧ qv = .int .i64 ((3 * i + s : Nat) : Int)) (fun q => 3 * i + 3 - (intOf q).toNat)
      case atStart => exact ⟨0, by omega, by go_num⟩
      case round =>
        clear h0 h1 h2
        obtain ⟨s, hs, rfl⟩ := hrel
        by_cases hs3 : s < 3
        · obtain ⟨g, c3, hcq, hzc, hz2, HJ1, HJ2⟩ := unhide HMi s hs3
          obtain ⟨q, hq⟩ : ∃ q, q = 3 * i + s := ⟨_, rfl⟩
          have hz70 : zz s ≤ 70 := by unfold zz; split <;> (try split) <;> omega
          obtain ⟨z, hz⟩ : ∃ z, z = m + zz s := ⟨_, rfl⟩
          have hzm : z ≤ m + 70 := by omega
          have hq3 : q < 3 * n := by omega
          have hqi : q < 3 * i + 3 := by omega
          rw [← hz] at hcq hzc HJ2
          rw [← hq] at hcq ⊢
          have HJ1 := hide HJ1
          have HJ2 := hide HJ2
          have HQ := hide hq
          clear hz hz70 hq HMi
          go_wp2
          go_loop [8, 9] (fun jv _ => ∃ (j : Nat), j ≤ z ∧ jv = .int .i64 (j : Int)) (fun j _ => z - (intOf j).toNat)
          case atStart => exact ⟨0, by omega, rfl⟩
          case round =>
            obtain ⟨j, hj, rfl⟩ := hrel
            by_cases hjz : j < z
            · by_cases hjm : j < m
              · obtain ⟨hmc, hc2, gu, rfl, hcu⟩ := unhide HLL (by omega)
                have hcu1 := hcu j hjm
                have hcv1 := unhide HJ1 j hjm
                clear hcu
                go_wp2
                go_roundw
                case rel => exact ⟨j + 1, by omega, by go_num⟩
                case measure => simp [intOf]; omega
              · have hcv2 := unhide HJ2 j hjm hjz
                go_wp2
                go_roundw
                case rel => exact ⟨j + 1, by omega, by go_num⟩
                case measure => simp [intOf]; omega
            · go_wp2
              go_roundw
              case rel => exact ⟨s + 1, by omega, by have := HQ.out; go_num⟩
              case measure => have := HQ.out; simp [intOf]; omega
        · go_wp2
          go_roundw
          case rel => exact ⟨i + 1, by omega, by go_num⟩
          case measure => simp [intOf]; omega
    · go_wp2
      go_ret
      exact ⟨rfl, rfl⟩
end Go.Proofs.YteabmambidafpaaDoor
