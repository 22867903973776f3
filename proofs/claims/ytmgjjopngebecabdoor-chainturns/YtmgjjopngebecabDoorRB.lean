/- What the document's Sum answers: the hash of the bytes. What words.key answers: the words as bytes. -/
import Derived.Test.YtmgjjopngebecabDoorRA
namespace Go.Proofs.YtmgjjopngebecabDoor
open Go.RowKit

def row32 (l : List Int) : List Value := (l ++ List.replicate (32 - l.length) 0).map (Value.int .u8)
theorem row32_set {l : List Int} {x : Int} (h : l.length < 32) : (row32 l).set l.length (.int .u8 x) = row32 (l ++ [x]) := by
  unfold row32
  have e : 32 - l.length = (32 - (l ++ [x]).length) + 1 := by simp; omega
  rw [e, List.replicate_succ, List.map_append, List.map_append, List.map_append, List.set_append_right _ _ (by simp)]
  simp
theorem row32_len {l : List Int} (h : l.length ≤ 32) : (row32 l).length = 32 := by
  simp [row32]; omega
theorem row32_one (l : List Int) : ∀ u ∈ row32 l, u.oneCell' = true := fun u hu => by
  obtain ⟨x, _, rfl⟩ := List.mem_map.1 hu
  rfl
theorem H8.vals_one (s : H8) : ∀ u ∈ s.vals, u.oneCell' = true := by
  intro u hu
  simp only [H8.vals, List.mem_cons, List.not_mem_nil, or_false] at hu
  rcases hu with rfl | rfl | rfl | rfl | rfl | rfl | rfl | rfl <;> rfl
theorem H8.at_bd {s : H8} (h : s.ok) : ∀ j, j < 8 → 0 ≤ s.at_ j ∧ s.at_ j < 4294967296
  | 0, _ => h.a | 1, _ => h.b | 2, _ => h.c | 3, _ => h.d | 4, _ => h.e | 5, _ => h.f | 6, _ => h.g | 7, _ => h.h
  | _ + 8, h' => by omega
theorem block_bytes {ys : List Int} (h : ∀ x ∈ ys, 0 ≤ x ∧ x ≤ 255) (n : Nat) : ∀ j : Nat, 0 ≤ ((ys.drop (64 * n)).take 64).getD j 0 ∧ ((ys.drop (64 * n)).take 64).getD j 0 ≤ 255 := by
  intro j
  rw [List.getD_eq_getElem?_getD]
  exact bytes_mem (fun x hx => h x (List.mem_of_mem_drop (List.mem_of_mem_take hx))) j
theorem block_at {ys : List Int} {n j : Nat} (hj : j < 64) : ((ys.drop (64 * n)).take 64).getD j 0 = ys.getD (64 * n + j) 0 := by
  rw [List.getD_eq_getElem?_getD, List.getD_eq_getElem?_getD, List.getElem?_take_of_lt hj, List.getElem?_drop]

theorem IsB.wrote {w w' : World} {gb off n cap g : Nat} {ys : List Int} (h : IsB w (.slice (some ⟨gb, off, none⟩) n cap) ys) (hw : Wrote w w' g) (hne : gb ≠ g) : IsB w' (.slice (some ⟨gb, off, none⟩) n cap) ys := by
  obtain ⟨h1, a, cp, hv, hl, hm, hz, hc⟩ := h
  refine ⟨h1, a, cp, hv, hl, hm, hz, fun hp => ?_⟩
  obtain ⟨b, o, ha, hcell⟩ := hc hp
  injection hv with e1 e2 e3
  have e4 := e1.trans ha
  injection e4 with e4
  injection e4 with e5 e6
  subst e5
  exact ⟨gb, o, ha, fun j hj => (World.cell?_of_block (a := ⟨gb, o + j, none⟩) (hw.other gb hne)).trans (hcell j hj)⟩

end Go.Proofs.YtmgjjopngebecabDoor

namespace Go.Proofs.YtmgjjopngebecabDoor
open Go.RowKit

theorem index_words {SV : List Value} {i : Nat} {x : Int} (hi : i < 8) (hx : SV[i]? = some (.int .u32 x)) (W : World) : (Instr.index 154 (.agg SV.toArray) (.int .i64 (i : Int))).run Tryd.prog W = .ok (.int .u32 x) W := by
  simp [Instr.index, run_underlying Tryd.underlying154, asIntOf, hi, go_sem, hx]

set_option maxRecDepth 100000 in
set_option maxHeartbeats 2000000 in
theorem key_calls (S : H8) (hok : S.ok) (w : World) : Calls Tryd.prog 85 #[.agg S.vals.toArray] w fun e w' => e = .returned (.agg ((keyB S 32).map (Value.int .u8)).toArray) ∧ Below w.heap.size w w' := by
  have hi8 : (Tryd.prog.info? 154).map (·.size) = some S.vals.length := by kernel_rfl
  have HAT : Hid (∀ j, j < 8 → S.vals[j]? = some (.int .u32 (S.at_ j))) := H8.vals_at S
  obtain ⟨SV, hSV⟩ : ∃ SV, SV = S.vals := ⟨_, rfl⟩
  rw [← hSV] at hi8 HAT ⊢
  clear hSV
  go_enter Tryd.func85, Tryd.ntmps85
  have hA0 := Arr.new w SV 154
  go_wp2_with (refine wpList_loadArr rfl (.tmp 1) 154 rfl rfl ((hA0.alloc _).alloc _) Tryd.underlying154 hi8 ?_)
  have hR := (Arr.new (w.alloc (.cells SV.toArray 154)) (row32 []) 32).alloc (.cells (row32 []).toArray 32)
  have hO := Arr.new ((w.alloc (.cells SV.toArray 154)).alloc (.cells (row32 []).toArray 32)) (row32 []) 32
  rw [size_alloc] at hR
  rw [size_alloc, size_alloc] at hO
  have hB : Below w.heap.size w (((w.alloc (.cells SV.toArray 154)).alloc (.cells (row32 []).toArray 32)).alloc (.cells (row32 []).toArray 32)) := by
    have b1 := (Below.refl w.heap.size w).alloc (Nat.le_refl _) (.cells SV.toArray 154)
    have b2 := b1.alloc b1.size (.cells (row32 []).toArray 32)
    exact b2.alloc b2.size _
  clear hA0
  go_loopw [8] (fun i wl => ∃ i0 : Nat, i0 ≤ 8 ∧ i = .int .i64 (i0 : Int) ∧ Arr wl (w.heap.size + 1) 32 (row32 []) ∧ Arr wl (w.heap.size + 1 + 1) 32 (row32 (keyB S (4 * i0))) ∧ Below w.heap.size w wl) (fun i _ => 8 - (intOf i).toNat)
  case atStart => exact ⟨0, by omega, rfl, hR, hO, hB⟩
  case round =>
    clear hR hO hB
    obtain ⟨i0, hi0, rfl, hR, hO, hnx⟩ := hrel
    by_cases hi8' : i0 < 8
    · have hSi := unhide HAT i0 hi8'
      have hSb := H8.at_bd hok i0 hi8'
      have HKS : Hid (∀ c, c < 4 → keyB S (4 * i0 + c + 1) = keyB S (4 * i0 + c) ++ [S.at_ i0 / 2 ^ (24 - 8 * c) % 256]) := fun c hc => by
        rw [keyB_succ, show (4 * i0 + c) / 4 = i0 by omega, show (4 * i0 + c) % 4 = c by omega]
      obtain ⟨x, hx⟩ : ∃ x, x = S.at_ i0 := ⟨_, rfl⟩
      rw [← hx] at hSi hSb HKS
      clear hx
      have hiI : (i0 : Int) < 8 := by omega
      have hiI0 : (0 : Int) ≤ (i0 : Int) := by omega
      have hidx : ∀ W, (Instr.index 154 (.agg SV.toArray) (.int .i64 (i0 : Int))).run Tryd.prog W = .ok (.int .u32 x) W := index_words hi8' hSi
      go_wp2_with fail
      go_loopw [12] (fun c wl => ∃ c0 : Nat, c0 ≤ 4 ∧ c = .int .i64 (c0 : Int) ∧ Arr wl (w.heap.size + 1) 32 (row32 []) ∧ Arr wl (w.heap.size + 1 + 1) 32 (row32 (keyB S (4 * i0 + c0))) ∧ Below w.heap.size w wl) (fun c _ => 4 - (intOf c).toNat)
      case atStart => exact ⟨0, by omega, rfl, hR, hO, hnx⟩
      case round =>
        clear hR hO hnx
        obtain ⟨c0, hc0, rfl, hR, hO, hnx⟩ := hrel
        by_cases hc4 : c0 < 4
        · have hkl := keyB_len S (4 * i0 + c0)
          have hnew := unhide HKS c0 hc4
          obtain ⟨k, hk⟩ : ∃ k, k = 4 * i0 + c0 := ⟨_, rfl⟩
          rw [← hk] at hO hkl hnew
          have hk1 : 4 * (i0 : Int) + (c0 : Int) = (k : Int) := by omega
          have hk32 : (k : Int) < 32 := by omega
          have hk0 : (0 : Int) ≤ (k : Int) := by omega
          have HKE := hide hk
          have hfr := hO.frozen k
          have hce := hO.cell k
          have hk32n : k < 32 := by omega
          rw [List.getElem?_eq_getElem (by rw [row32_len (by omega)]; omega)] at hce
          generalize (row32 (keyB S k))[k]'(by rw [row32_len (by omega)]; omega) = old at hce
          obtain ⟨sh, hsh⟩ : ∃ sh, sh = 24 - 8 * c0 := ⟨_, rfl⟩
          have hsh1 : 8 * ((3 : Int) - (c0 : Int)) = (sh : Int) := by omega
          have hsh2 : sh ≤ 24 := by omega
          rw [← hsh] at hnew
          have HNEW := hide hnew
          have HKL := hide hkl
          clear hk hsh hnew hkl
          go_wp2_with fail
          have hkE := HKE.out
          have hkl := HKL.out
          refine ⟨⟨c0 + 1, by omega, by go_num, hR.other _ _ (show w.heap.size + 1 ≠ w.heap.size + 1 + 1 by omega), ?_, hnx.setCell (p := ⟨w.heap.size + 1 + 1, k, none⟩) (show w.heap.size ≤ w.heap.size + 1 + 1 by omega) _⟩, by simp [intOf]; omega⟩
          rw [show 4 * i0 + (c0 + 1) = k + 1 by omega, show k + 1 = 4 * i0 + c0 + 1 by omega]
          have h1 := hO.set k (.int .u8 (x / 2 ^ sh % 256))
          have h2 := row32_set (l := keyB S k) (x := x / 2 ^ sh % 256) (by omega)
          rw [hkl, ← HNEW.out] at h2
          rw [h2, hkE] at h1
          rw [← hkE] at h1 ⊢
          exact h1
        · have hce : c0 = 4 := by omega
          have HCE := hide hce
          clear hce
          go_wp2
          go_roundw
          case rel =>
            have e := HCE.out
            rw [e] at hO
            exact ⟨i0 + 1, by omega, by go_num, hR, hO, hnx⟩
          case measure => simp [intOf]; omega
    · have hie : i0 = 8 := by omega
      rw [hie] at hO
      have hF : row32 (keyB S (4 * 8)) = (keyB S 32).map (Value.int .u8) := by
        unfold row32
        rw [keyB_len]
        simp
      rw [hF] at hO
      have hi48 : (Tryd.prog.info? 32).map (·.size) = some ((keyB S 32).map (Value.int .u8)).length := by rw [List.length_map, keyB_len]; kernel_rfl
      have hl48 : (row32 []).length = ((keyB S 32).map (Value.int .u8)).length := by rw [List.length_map, keyB_len]; rfl
      have hone48 := u8_one (keyB S 32)
      obtain ⟨KV, hKV⟩ : ∃ KV, KV = (keyB S 32).map (Value.int .u8) := ⟨_, rfl⟩
      rw [← hKV] at hO hi48 hl48 hone48
      have HKV := hide hKV
      clear hie hF hKV
      go_wp2_with (first
        | refine wpList_loadArr rfl (.tmp 3) 32 rfl rfl hO Tryd.underlying32 hi48 ?_
        | (refine wpList_storeArr2 (cs' := KV) rfl (.tmp 2) (.tmp 28) 32 rfl rfl rfl hR hi48 hl48 hone48 ?_; intro w8 hR8 hw8))
      exact bodyPost_ret (v := .agg KV.toArray) (results_arr rfl rfl hR8 Tryd.underlying32 hi48) rfl ⟨by rw [HKV.out], hw8.below _ _ hnx (by omega)⟩
end Go.Proofs.YtmgjjopngebecabDoor
