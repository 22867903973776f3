/- What words.key answers: the words as bytes. -/
import Derived.Test.YtmnmnepiikeomaaDoorRefSha
namespace Go.Proofs.YtmnmnepiikeomaaDoor
open Go.RowKit

theorem index_words {SV : List Value} {i : Nat} {x : Int} (hi : i < 8) (hx : SV[i]? = some (.int .u32 x)) (W : World) : (Instr.index 61 (.agg SV.toArray) (.int .i64 (i : Int))).run Tryd.prog W = .ok (.int .u32 x) W := by
  simp [Instr.index, run_underlying Tryd.underlying61, asIntOf, hi, go_sem, hx]

set_option maxRecDepth 100000 in
set_option maxHeartbeats 2000000 in
theorem key_calls (S : H8) (hok : S.ok) (w : World) : Calls Tryd.prog 31 #[.agg S.vals.toArray] w fun e w' => e = .returned (.agg ((keyB S 32).map (Value.int .u8)).toArray) ∧ Below w.heap.size w w' := by
  have hi8 : (Tryd.prog.info? 61).map (·.size) = some S.vals.length := by kernel_rfl
  have HAT : Hid (∀ j, j < 8 → S.vals[j]? = some (.int .u32 (S.at_ j))) := H8.vals_at S
  obtain ⟨SV, hSV⟩ : ∃ SV, SV = S.vals := ⟨_, rfl⟩
  rw [← hSV] at hi8 HAT ⊢
  clear hSV
  go_enter Tryd.func31, Tryd.ntmps31
  have hA0 := Arr.new w SV 61
  go_wp2_with (refine wpList_loadArr rfl (.tmp 1) 61 rfl rfl ((hA0.alloc _).alloc _) Tryd.underlying61 hi8 ?_)
  have hR := (Arr.new (w.alloc (.cells SV.toArray 61)) (row32 []) 28).alloc (.cells (row32 []).toArray 28)
  have hO := Arr.new ((w.alloc (.cells SV.toArray 61)).alloc (.cells (row32 []).toArray 28)) (row32 []) 28
  rw [size_alloc] at hR
  rw [size_alloc, size_alloc] at hO
  have hB : Below w.heap.size w (((w.alloc (.cells SV.toArray 61)).alloc (.cells (row32 []).toArray 28)).alloc (.cells (row32 []).toArray 28)) := by
    have b1 := (Below.refl w.heap.size w).alloc (Nat.le_refl _) (.cells SV.toArray 61)
    have b2 := b1.alloc b1.size (.cells (row32 []).toArray 28)
    exact b2.alloc b2.size _
  clear hA0
  go_loopw [8] (fun i wl => ∃ i0 : Nat, i0 ≤ 8 ∧ i = .int .i64 (i0 : Int) ∧ Arr wl (w.heap.size + 1) 28 (row32 []) ∧ Arr wl (w.heap.size + 1 + 1) 28 (row32 (keyB S (4 * i0))) ∧ Below w.heap.size w wl) (fun i _ => 8 - (intOf i).toNat)
  case atStart => exact ⟨0, by omega, rfl, hR, hO, hB⟩
  case round =>
    clear hR hO hB
    obtain ⟨i0, hi0, rfl, hR, hO, hnx⟩ := hrel
    by_cases hi8' : i0 < 8
    · have hSi := unhide HAT i0 hi8'
      have hSb := H8.at_bd hok i0 hi8'
      have HKS : Hid (∀ c, c < 4 → keyB S (4 * i0 + c + 1) = keyB S (4 * i0 + c) ++ [S.at_ i0 / 2 ^ (24 - 8 * c) % 256]) := fun c hc => by
        rw [keyB_succ, show (4 * i0 + c) / 4 = i0 by omega, show (4 * i0 + c) % 4 = c by omega]
      obtain ⟨x, hx⟩ : ∃ x, x = S.at_ i0 := ⟨_, rfl⟩
      rw [← hx] at hSi hSb HKS
      clear hx
      have hiI : (i0 : Int) < 8 := by omega
      have hiI0 : (0 : Int) ≤ (i0 : Int) := by omega
      have hidx : ∀ W, (Instr.index 61 (.agg SV.toArray) (.int .i64 (i0 : Int))).run Tryd.prog W = .ok (.int .u32 x) W := index_words hi8' hSi
      go_wp2_with fail
      go_loopw [12] (fun c wl => ∃ c0 : Nat, c0 ≤ 4 ∧ c = .int .i64 (c0 : Int) ∧ Arr wl (w.heap.size + 1) 28 (row32 []) ∧ Arr wl (w.heap.size + 1 + 1) 28 (row32 (keyB S (4 * i0 + c0))) ∧ Below w.heap.size w wl) (fun c _ => 4 - (intOf c).toNat)
      case atStart => exact ⟨0, by omega, rfl, hR, hO, hnx⟩
      case round =>
        clear hR hO hnx
        obtain ⟨c0, hc0, rfl, hR, hO, hnx⟩ := hrel
        by_cases hc4 : c0 < 4
        · have hkl := keyB_len S (4 * i0 + c0)
          have hnew := unhide HKS c0 hc4
          obtain ⟨k, hk⟩ : ∃ k, k = 4 * i0 + c0 := ⟨_, rfl⟩
          rw [← hk] at hO hkl hnew
          have hk1 : 4 * (i0 : Int) + (c0 : Int) = (k : Int) := by omega
          have hk32 : (k : Int) < 32 := by omega
          have hk0 : (0 : Int) ≤ (k : Int) := by omega
          have HKE := hide hk
          have hfr := hO.frozen k
          have hce := hO.cell k
          have hk32n : k < 32 := by omega
          rw [List.getElem?_eq_getElem (by rw [row32_len (by omega)]; omega)] at hce
          generalize (row32 (keyB S k))[k]'(by rw [row32_len (by omega)]; omega) = old at hce
          obtain ⟨sh, hsh⟩ : ∃ sh, sh = 24 - 8 * c0 := ⟨_, rfl⟩
          have hsh1 : 8 * ((3 : Int) - (c0 : Int)) = (sh : Int) := by omega
          have hsh2 : sh ≤ 24 := by omega
          rw [← hsh] at hnew
          have HNEW := hide hnew
          have HKL := hide hkl
          clear hk hsh hnew hkl
          go_wp2_with fail
          have hkE := HKE.out
          have hkl := HKL.out
          refine ⟨⟨c0 + 1, by omega, by go_num, hR.other _ _ (show w.heap.size + 1 ≠ w.heap.size + 1 + 1 by omega), ?_, hnx.setCell (p := ⟨w.heap.size + 1 + 1, k, none⟩) (show w.heap.size ≤ w.heap.size + 1 + 1 by omega) _⟩, by simp [intOf]; omega⟩
          rw [show 4 * i0 + (c0 + 1) = k + 1 by omega, show k + 1 = 4 * i0 + c0 + 1 by omega]
          have h1 := hO.set k (.int .u8 (x / 2 ^ sh % 256))
          have h2 := row32_set (l := keyB S k) (x := x / 2 ^ sh % 256) (by omega)
          rw [hkl, ← HNEW.out] at h2
          rw [h2, hkE] at h1
          rw [← hkE] at h1 ⊢
          exact h1
        · have hce : c0 = 4 := by omega
          have HCE := hide hce
          clear hce
          go_wp2
          go_roundw
          case rel =>
            have e := HCE.out
            rw [e] at hO
            exact ⟨i0 + 1, by omega, by go_num, hR, hO, hnx⟩
          case measure => simp [intOf]; omega
    · have hie : i0 = 8 := by omega
      rw [hie] at hO
      have hF : row32 (keyB S (4 * 8)) = (keyB S 32).map (Value.int .u8) := by
        unfold row32
        rw [keyB_len]
        simp
      rw [hF] at hO
      have hi48 : (Tryd.prog.info? 28).map (·.size) = some ((keyB S 32).map (Value.int .u8)).length := by rw [List.length_map, keyB_len]; kernel_rfl
      have hl48 : (row32 []).length = ((keyB S 32).map (Value.int .u8)).length := by rw [List.length_map, keyB_len]; rfl
      have hone48 := u8_one (keyB S 32)
      obtain ⟨KV, hKV⟩ : ∃ KV, KV = (keyB S 32).map (Value.int .u8) := ⟨_, rfl⟩
      rw [← hKV] at hO hi48 hl48 hone48
      have HKV := hide hKV
      clear hie hF hKV
      go_wp2_with (first
        | refine wpList_loadArr rfl (.tmp 3) 28 rfl rfl hO Tryd.underlying28 hi48 ?_
        | (refine wpList_storeArr2 (cs' := KV) rfl (.tmp 2) (.tmp 28) 28 rfl rfl rfl hR hi48 hl48 hone48 ?_; intro w8 hR8 hw8))
      exact bodyPost_ret (v := .agg KV.toArray) (results_arr rfl rfl hR8 Tryd.underlying28 hi48) rfl ⟨by rw [HKV.out], hw8.below _ _ hnx (by omega)⟩
end Go.Proofs.YtmnmnepiikeomaaDoor
