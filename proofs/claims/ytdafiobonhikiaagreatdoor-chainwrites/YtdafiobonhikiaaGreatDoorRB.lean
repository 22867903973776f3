/- What the document's Sum answers: the hash of the bytes. What words.key answers: the words as bytes. -/
import Derived.Test.YtdafiobonhikiaaGreatDoorRA
namespace Go.Proofs.YtdafiobonhikiaaGreatDoor
open Go.RowKit

def row32 (l : List Int) : List Value := (l ++ List.replicate (32 - l.length) 0).map (Value.int .u8)
theorem row32_set {l : List Int} {x : Int} (h : l.length < 32) : (row32 l).set l.length (.int .u8 x) = row32 (l ++ [x]) := by
  unfold row32
  have e : 32 - l.length = (32 - (l ++ [x]).length) + 1 := by simp; omega
  rw [e, List.replicate_succ, List.map_append, List.map_append, List.map_append, List.set_append_right _ _ (by simp)]
  simp
theorem row32_len {l : List Int} (h : l.length ≤ 32) : (row32 l).length = 32 := by
  simp [row32]; omega
theorem row32_one (l : List Int) : ∀ u ∈ row32 l, u.oneCell' = true := fun u hu => by
  obtain ⟨x, _, rfl⟩ := List.mem_map.1 hu
  rfl
theorem H8.vals_one (s : H8) : ∀ u ∈ s.vals, u.oneCell' = true := by
  intro u hu
  simp only [H8.vals, List.mem_cons, List.not_mem_nil, or_false] at hu
  rcases hu with rfl | rfl | rfl | rfl | rfl | rfl | rfl | rfl <;> rfl
theorem H8.at_bd {s : H8} (h : s.ok) : ∀ j, j < 8 → 0 ≤ s.at_ j ∧ s.at_ j < 4294967296
  | 0, _ => h.a | 1, _ => h.b | 2, _ => h.c | 3, _ => h.d | 4, _ => h.e | 5, _ => h.f | 6, _ => h.g | 7, _ => h.h
  | _ + 8, h' => by omega
theorem block_bytes {ys : List Int} (h : ∀ x ∈ ys, 0 ≤ x ∧ x ≤ 255) (n : Nat) : ∀ j : Nat, 0 ≤ ((ys.drop (64 * n)).take 64).getD j 0 ∧ ((ys.drop (64 * n)).take 64).getD j 0 ≤ 255 := by
  intro j
  rw [List.getD_eq_getElem?_getD]
  exact bytes_mem (fun x hx => h x (List.mem_of_mem_drop (List.mem_of_mem_take hx))) j
theorem block_at {ys : List Int} {n j : Nat} (hj : j < 64) : ((ys.drop (64 * n)).take 64).getD j 0 = ys.getD (64 * n + j) 0 := by
  rw [List.getD_eq_getElem?_getD, List.getD_eq_getElem?_getD, List.getElem?_take_of_lt hj, List.getElem?_drop]

theorem IsB.wrote {w w' : World} {gb off n cap g : Nat} {ys : List Int} (h : IsB w (.slice (some ⟨gb, off, none⟩) n cap) ys) (hw : Wrote w w' g) (hne : gb ≠ g) : IsB w' (.slice (some ⟨gb, off, none⟩) n cap) ys := by
  obtain ⟨h1, a, cp, hv, hl, hm, hz, hc⟩ := h
  refine ⟨h1, a, cp, hv, hl, hm, hz, fun hp => ?_⟩
  obtain ⟨b, o, ha, hcell⟩ := hc hp
  injection hv with e1 e2 e3
  have e4 := e1.trans ha
  injection e4 with e4
  injection e4 with e5 e6
  subst e5
  exact ⟨gb, o, ha, fun j hj => (World.cell?_of_block (a := ⟨gb, o + j, none⟩) (hw.other gb hne)).trans (hcell j hj)⟩

set_option maxRecDepth 100000 in
set_option maxHeartbeats 2000000 in
theorem rsum_calls {w : World} {v : Value} {xs : List Int} (h : IsB w v xs) (hl : xs.length ≤ 140737488350000) :
    Calls Tryz.prog 61 #[v] w fun e w' => e = .returned (keyV xs) ∧ Below w.heap.size w w' := by
  have HI := hide h
  have hlenL := laidB_len xs
  have hz64 : zerosOf xs.length < 64 := by unfold zerosOf; omega
  have hfit := zerosOf_fit xs.length
  obtain ⟨NB, hNB⟩ : ∃ NB, (laidB xs).length = 64 * NB := ⟨(laidB xs).length / 64, by omega⟩
  have hNBb : 64 * NB ≤ 140737488350200 := by omega
  have HNB := hide hNB
  have HL := hide hl
  clear hlenL hz64 hfit hNB hl
  have HMEM : Hid (∀ x ∈ laidB xs, 0 ≤ x ∧ x ≤ 255) := laidB_bytes h.mem
  obtain ⟨a0, n0, c0, rfl⟩ := h.shape
  clear h
  have hi79 : (Tryz.prog.info? 167).map (·.size) = some (kTab.map (Value.int .u32)).length := by kernel_rfl
  have hone79 : ∀ u ∈ kTab.map (Value.int .u32), u.oneCell' = true := fun u hu => by
    obtain ⟨x, _, rfl⟩ := List.mem_map.1 hu
    rfl
  have hl79 : (row64 []).length = (kTab.map (Value.int .u32)).length := by kernel_rfl
  obtain ⟨KT, hKT⟩ : ∃ KT, KT = kTab.map (Value.int .u32) := ⟨_, rfl⟩
  rw [← hKT] at hi79 hone79 hl79
  have HKT := hide hKT
  clear hKT
  go_enter Tryz.func61, Tryz.ntmps61
  go_wp2_with fail
  have hR0 := (Arr.new w (row32 []) 36).alloc (.cells init8.vals.toArray 166)
  have hS0 := Arr.new (w.alloc (.cells (row32 []).toArray 36)) init8.vals 166
  rw [size_alloc] at hS0
  have hb1 : Below w.heap.size w ((w.alloc (.cells (row32 []).toArray 36)).alloc (.cells init8.vals.toArray 166)) := by
    have b1 := (Below.refl w.heap.size w).alloc (Nat.le_refl _) (.cells (row32 []).toArray 36)
    exact b1.alloc b1.size _
  have HR0 : Hid (Arr _ w.heap.size 36 (row32 [])) := hR0
  have HS0 : Hid (Arr _ (w.heap.size + 1) 166 init8.vals) := hS0
  have HB1 := hide hb1
  clear hR0 hS0 hb1
  refine (rtable_calls _).mono ?_
  rintro e w2 ⟨rfl, hb2⟩
  have hR2 := (unhide HR0).below hb2
  have hS2 := (unhide HS0).below hb2
  have hB2 := below_then (unhide HB1) hb2
  clear HR0 HS0 HB1 hb2
  rw [← HKT.out]
  have hRl := hR2.lt
  have hSl := hS2.lt
  have hB2s := hB2.size
  go_wp2_with (refine wpList_storeArr2 (cs' := KT) rfl (.tmp 4) (.tmp 11) 167 rfl rfl rfl (Arr.new w2 (row64 []) _) hi79 hl79 hone79 ?_; intro w3 hK3 hw3)
  have hR3 := (hR2.alloc (.cells (row64 []).toArray 167)).wrote hw3 (by omega)
  have hS3 := (hS2.alloc (.cells (row64 []).toArray 167)).wrote hw3 (by omega)
  have hB3 := hw3.below _ _ (hB2.alloc hB2.size _) hB2.size
  generalize w2.heap.size = gK at *
  clear hR2 hS2 hB2 hw3
  refine (rlaid_calls ((unhide HI).below hB3) (unhide HL)).mono ?_
  rintro e w4 ⟨u, rfl, hO4, hb4⟩
  obtain ⟨gb, cb, rfl, hgb, _⟩ := hO4.head (by have := HNB.out; have := laidB_len xs; omega)
  have hI4 := hO4.isB
  have hrm := hI4.room
  rw [HNB.out] at hI4 hrm ⊢
  have hcm := hI4.len
  have hR4 := hR3.below hb4
  have hS4 := hS3.below hb4
  have hK4 := hK3.below hb4
  have hB4 := below_then hB3 hb4
  have hcb : cb ≤ 9223372036854775807 := by
    obtain ⟨_, a', cp', hv, _, hm', _⟩ := hI4
    injection hv with e1 e2 e3
    omega
  have hgbl : w.heap.size + 1 < gb := by have := hS3.lt; omega
  have hgKl : w.heap.size + 1 < gK := hSl
  clear hR3 hS3 hK3 hB3 hb4 hO4 hB2s
  go_wp2_with fail
  go_loopw [6] (fun i wr => ∃ n : Nat, n ≤ NB ∧ i = .int .i64 ((64 * n : Nat) : Int) ∧ Arr wr w.heap.size 36 (row32 []) ∧ Arr wr (w.heap.size + 1) 166 (absorbN init8 (laidB xs) n).vals ∧ Arr wr gK 167 KT ∧ IsB wr (.slice (some ⟨gb, 0, none⟩) (64 * NB) cb) (laidB xs) ∧ Below w.heap.size w wr)
    (fun i _ => 64 * NB - (intOf i).toNat)
  case atStart => exact ⟨0, by omega, rfl, hR4, hS4, hK4, hI4, hB4⟩
  case round =>
    clear hR4 hS4 hK4 hI4 hB4 hcm
    obtain ⟨n, hn, rfl, hR, hS, hK, hI, hnx⟩ := hrel
    by_cases hnN : n < NB
    · obtain ⟨A, hA⟩ : ∃ A, A = 64 * n := ⟨_, rfl⟩
      rw [← hA]
      have hA64 : A + 64 ≤ 64 * NB := by omega
      have hblk := rblock_in (absorbN init8 (laidB xs) n) gb 0 (64 * NB) cb A (((laidB xs).drop (64 * n)).take 64) wr hrm hcb hA64 (block_bytes (unhide HMEM) n) (fun j hj => by
        obtain ⟨_, a', cp', hv, _, _, _, hc⟩ := hI
        obtain ⟨b', off', ha, hcell⟩ := hc (by rw [HNB.out]; omega)
        injection hv with e1 e2 e3
        rw [ha] at e1
        injection e1 with e1
        injection e1 with e1 e4
        subst e1 e4
        rw [hcell (A + j) (by rw [HNB.out]; omega), block_at hj, hA]) (absorbN_ok init8_ok _ n)
      rw [← HKT.out] at hblk
      have HBLK := hide hblk
      have HAE := hide hA
      have hi8 : (Tryz.prog.info? 166).map (·.size) = some (absorbN init8 (laidB xs) n).vals.length := by kernel_rfl
      have hi8' : (Tryz.prog.info? 166).map (·.size) = some (absorbN init8 (laidB xs) (n + 1)).vals.length := by kernel_rfl
      have HVE : Hid ((blockF (absorbN init8 (laidB xs) n) (((laidB xs).drop (64 * n)).take 64)).vals = (absorbN init8 (laidB xs) (n + 1)).vals) := rfl
      have hone8 := H8.vals_one (absorbN init8 (laidB xs) (n + 1))
      have hl8 : (absorbN init8 (laidB xs) n).vals.length = (absorbN init8 (laidB xs) (n + 1)).vals.length := rfl
      rw [HVE.out] at HBLK
      generalize (absorbN init8 (laidB xs) n).vals = SV at *
      obtain ⟨SV', hSV⟩ : ∃ SV', SV' = (absorbN init8 (laidB xs) (n + 1)).vals := ⟨_, rfl⟩
      rw [← hSV] at HBLK hi8' hone8 hl8
      have HSV := hide hSV
      clear hSV HVE
      clear hblk hA
      go_wp2_with (first
        | refine wpList_loadArr rfl (.tmp 3) 166 rfl rfl hS Tryz.underlying166 hi8 ?_
        | refine wpList_loadArr rfl (.tmp 4) 167 rfl rfl hK Tryz.underlying167 hi79 ?_
        | (go_at_call 94; refine (unhide HBLK).mono ?_; rintro e w5 ⟨rfl, hb5⟩; have hS5 := hS.below hb5)
        | (refine wpList_storeArr2 (cs' := SV') rfl (.tmp 3) (.tmp 24) 166 rfl rfl rfl hS5 hi8' hl8 hone8 ?_; intro w6 hS6 hw6))
      have hAE := HAE.out
      refine ⟨⟨n + 1, by omega, by rw [hAE]; congr 1, (hR.below hb5).wrote hw6 (by omega), ?_, (hK.below hb5).wrote hw6 (by omega), (hI.below hb5).wrote hw6 (by omega), hw6.below _ _ (below_then hnx hb5) (by omega)⟩, by simp [intOf]; omega⟩
      rw [← HSV.out]
      exact hS6
    · have hne : n = NB := by omega
      obtain ⟨S, hS'⟩ : ∃ S, S = absorbN init8 (laidB xs) ((laidB xs).length / 64) := ⟨_, rfl⟩
      have hSe : absorbN init8 (laidB xs) n = S := by rw [hS', HNB.out, hne, Nat.mul_div_cancel_left _ (by decide)]
      have hok : S.ok := by rw [hS']; exact absorbN_ok init8_ok _ _
      rw [hSe] at hS
      have HKEY : Hid (keyV xs = .agg ((keyB S 32).map (Value.int .u8)).toArray) := by
        show _ = _
        rw [keyV, shaOf, hS']
      have HNE := hide hne
      clear hne hSe hS' hK hI
      have hRl2 := hR.lt
      have hSl2 := hS.lt
      go_wp2_with fail
      have hO := Arr.new wr (row32 []) 36
      have hR' := hR.alloc (.cells (row32 []).toArray 36)
      have hS' := hS.alloc (.cells (row32 []).toArray 36)
      have hB' := hnx.alloc hnx.size (.cells (row32 []).toArray 36)
      have hgO : w.heap.size + 1 < wr.heap.size := hSl2
      clear hR hS hnx hRl2 hSl2
      generalize wr.heap.size = gO at *
      go_loopw [8] (fun i wl => ∃ i0 : Nat, i0 ≤ 8 ∧ i = .int .i64 (i0 : Int) ∧ Arr wl w.heap.size 36 (row32 []) ∧ Arr wl (w.heap.size + 1) 166 S.vals ∧ Arr wl gO 36 (row32 (keyB S (4 * i0))) ∧ Below w.heap.size w wl) (fun i _ => 8 - (intOf i).toNat)
      case atStart => exact ⟨0, by omega, rfl, hR', hS', hO, hB'⟩
      case round =>
        clear hO hR' hS' hB'
        obtain ⟨i0, hi0, rfl, hR, hS, hO, hnx⟩ := hrel
        by_cases hi8 : i0 < 8
        · have hSi := hS.cell i0
          rw [H8.vals_at S i0 hi8] at hSi
          have hSb := H8.at_bd hok i0 hi8
          have HKS : Hid (∀ c, c < 4 → keyB S (4 * i0 + c + 1) = keyB S (4 * i0 + c) ++ [S.at_ i0 / 2 ^ (24 - 8 * c) % 256]) := fun c hc => by
            rw [keyB_succ, show (4 * i0 + c) / 4 = i0 by omega, show (4 * i0 + c) % 4 = c by omega]
          obtain ⟨x, hx⟩ : ∃ x, x = S.at_ i0 := ⟨_, rfl⟩
          rw [← hx] at hSi hSb HKS
          clear hx
          have hiI : (i0 : Int) < 8 := by omega
          have hiI0 : (0 : Int) ≤ (i0 : Int) := by omega
          go_wp2_with fail
          go_loopw [9] (fun c wl => ∃ c0 : Nat, c0 ≤ 4 ∧ c = .int .i64 (c0 : Int) ∧ Arr wl w.heap.size 36 (row32 []) ∧ Arr wl (w.heap.size + 1) 166 S.vals ∧ Arr wl gO 36 (row32 (keyB S (4 * i0 + c0))) ∧ Below w.heap.size w wl ∧ wl.cell? ⟨w.heap.size + 1, i0, none⟩ = some (.int .u32 x)) (fun c _ => 4 - (intOf c).toNat)
          case atStart => exact ⟨0, by omega, rfl, hR, hS, hO, hnx, hSi⟩
          case round =>
            clear hR hS hO hnx hSi
            obtain ⟨c0, hc0, rfl, hR, hS, hO, hnx, hSi⟩ := hrel
            by_cases hc4 : c0 < 4
            · have hkl := keyB_len S (4 * i0 + c0)
              have hnew := unhide HKS c0 hc4
              obtain ⟨k, hk⟩ : ∃ k, k = 4 * i0 + c0 := ⟨_, rfl⟩
              rw [← hk] at hO hkl hnew
              have hk1 : 4 * (i0 : Int) + (c0 : Int) = (k : Int) := by omega
              have hk32 : (k : Int) < 32 := by omega
              have hk0 : (0 : Int) ≤ (k : Int) := by omega
              have HKE := hide hk
              have hfr := hO.frozen k
              have hce := hO.cell k
              have hk32n : k < 32 := by omega
              rw [List.getElem?_eq_getElem (by rw [row32_len (by omega)]; omega)] at hce
              generalize (row32 (keyB S k))[k]'(by rw [row32_len (by omega)]; omega) = old at hce
              obtain ⟨sh, hsh⟩ : ∃ sh, sh = 24 - 8 * c0 := ⟨_, rfl⟩
              have hsh1 : (24 : Int) - 8 * (c0 : Int) = (sh : Int) := by omega
              have hsh2 : sh ≤ 24 := by omega
              rw [← hsh] at hnew
              have HNEW := hide hnew
              have HKL := hide hkl
              clear hk hsh hnew hkl
              go_wp2_with fail
              have hkE := HKE.out
              have hkl := HKL.out
              refine ⟨⟨c0 + 1, by omega, by go_num, hR.other _ _ (show w.heap.size ≠ gO by omega), hS.other _ _ (show w.heap.size + 1 ≠ gO by omega), ?_, hnx.setCell (p := ⟨gO, k, none⟩) (show w.heap.size ≤ gO by omega) _, ?_⟩, by simp [intOf]; omega⟩
              · rw [show 4 * i0 + (c0 + 1) = k + 1 by omega, show k + 1 = 4 * i0 + c0 + 1 by omega]
                have h1 := hO.set k (.int .u8 (x / 2 ^ sh % 256))
                have h2 := row32_set (l := keyB S k) (x := x / 2 ^ sh % 256) (by omega)
                rw [hkl, ← HNEW.out] at h2
                rw [h2, hkE] at h1
                rw [← hkE] at h1 ⊢
                exact h1
              · exact ((hS.other _ _ (show w.heap.size + 1 ≠ gO by omega)).cell i0).trans ((hS.cell i0).symm.trans hSi)
            · have hce : c0 = 4 := by omega
              have HCE := hide hce
              clear hce
              go_wp2
              go_roundw
              case rel =>
                have e := HCE.out
                rw [e] at hO
                exact ⟨i0 + 1, by omega, by go_num, hR, hS, hO, hnx⟩
              case measure => simp [intOf]; omega
        · have hie : i0 = 8 := by omega
          rw [hie] at hO
          have hF : row32 (keyB S (4 * 8)) = (keyB S 32).map (Value.int .u8) := by
            unfold row32
            rw [keyB_len]
            simp
          rw [hF] at hO
          have hi48 : (Tryz.prog.info? 36).map (·.size) = some ((keyB S 32).map (Value.int .u8)).length := by rw [List.length_map, keyB_len]; kernel_rfl
          have hl48 : (row32 []).length = ((keyB S 32).map (Value.int .u8)).length := by rw [List.length_map, keyB_len]; rfl
          have hone48 := u8_one (keyB S 32)
          generalize (keyB S 32).map (Value.int .u8) = KV at *
          clear hie hF
          go_wp2_with (first
            | refine wpList_loadArr rfl (.tmp 7) 36 rfl rfl hO Tryz.underlying36 hi48 ?_
            | (refine wpList_storeArr2 (cs' := KV) rfl (.tmp 2) (.tmp 47) 36 rfl rfl rfl hR hi48 hl48 hone48 ?_; intro w8 hR8 hw8))
          exact bodyPost_ret (v := .agg KV.toArray) (results_arr rfl rfl hR8 Tryz.underlying36 hi48) rfl ⟨by rw [HKEY.out], hw8.below _ _ hnx (Nat.le_refl _)⟩
end Go.Proofs.YtdafiobonhikiaaGreatDoor

namespace Go.Proofs.YtdafiobonhikiaaGreatDoor
open Go.RowKit

theorem index_words {SV : List Value} {i : Nat} {x : Int} (hi : i < 8) (hx : SV[i]? = some (.int .u32 x)) (W : World) : (Instr.index 192 (.agg SV.toArray) (.int .i64 (i : Int))).run Tryz.prog W = .ok (.int .u32 x) W := by
  simp [Instr.index, run_underlying Tryz.underlying192, asIntOf, hi, go_sem, hx]

set_option maxRecDepth 100000 in
set_option maxHeartbeats 2000000 in
theorem key_calls (S : H8) (hok : S.ok) (w : World) : Calls Tryz.prog 113 #[.agg S.vals.toArray] w fun e w' => e = .returned (.agg ((keyB S 32).map (Value.int .u8)).toArray) ∧ Below w.heap.size w w' := by
  have hi8 : (Tryz.prog.info? 192).map (·.size) = some S.vals.length := by kernel_rfl
  have HAT : Hid (∀ j, j < 8 → S.vals[j]? = some (.int .u32 (S.at_ j))) := H8.vals_at S
  obtain ⟨SV, hSV⟩ : ∃ SV, SV = S.vals := ⟨_, rfl⟩
  rw [← hSV] at hi8 HAT ⊢
  clear hSV
  go_enter Tryz.func113, Tryz.ntmps113
  have hA0 := Arr.new w SV 192
  go_wp2_with (refine wpList_loadArr rfl (.tmp 1) 192 rfl rfl ((hA0.alloc _).alloc _) Tryz.underlying192 hi8 ?_)
  have hR := (Arr.new (w.alloc (.cells SV.toArray 192)) (row32 []) 36).alloc (.cells (row32 []).toArray 36)
  have hO := Arr.new ((w.alloc (.cells SV.toArray 192)).alloc (.cells (row32 []).toArray 36)) (row32 []) 36
  rw [size_alloc] at hR
  rw [size_alloc, size_alloc] at hO
  have hB : Below w.heap.size w (((w.alloc (.cells SV.toArray 192)).alloc (.cells (row32 []).toArray 36)).alloc (.cells (row32 []).toArray 36)) := by
    have b1 := (Below.refl w.heap.size w).alloc (Nat.le_refl _) (.cells SV.toArray 192)
    have b2 := b1.alloc b1.size (.cells (row32 []).toArray 36)
    exact b2.alloc b2.size _
  clear hA0
  go_loopw [8] (fun i wl => ∃ i0 : Nat, i0 ≤ 8 ∧ i = .int .i64 (i0 : Int) ∧ Arr wl (w.heap.size + 1) 36 (row32 []) ∧ Arr wl (w.heap.size + 1 + 1) 36 (row32 (keyB S (4 * i0))) ∧ Below w.heap.size w wl) (fun i _ => 8 - (intOf i).toNat)
  case atStart => exact ⟨0, by omega, rfl, hR, hO, hB⟩
  case round =>
    clear hR hO hB
    obtain ⟨i0, hi0, rfl, hR, hO, hnx⟩ := hrel
    by_cases hi8' : i0 < 8
    · have hSi := unhide HAT i0 hi8'
      have hSb := H8.at_bd hok i0 hi8'
      have HKS : Hid (∀ c, c < 4 → keyB S (4 * i0 + c + 1) = keyB S (4 * i0 + c) ++ [S.at_ i0 / 2 ^ (24 - 8 * c) % 256]) := fun c hc => by
        rw [keyB_succ, show (4 * i0 + c) / 4 = i0 by omega, show (4 * i0 + c) % 4 = c by omega]
      obtain ⟨x, hx⟩ : ∃ x, x = S.at_ i0 := ⟨_, rfl⟩
      rw [← hx] at hSi hSb HKS
      clear hx
      have hiI : (i0 : Int) < 8 := by omega
      have hiI0 : (0 : Int) ≤ (i0 : Int) := by omega
      have hidx : ∀ W, (Instr.index 192 (.agg SV.toArray) (.int .i64 (i0 : Int))).run Tryz.prog W = .ok (.int .u32 x) W := index_words hi8' hSi
      go_wp2_with fail
      go_loopw [12] (fun c wl => ∃ c0 : Nat, c0 ≤ 4 ∧ c = .int .i64 (c0 : Int) ∧ Arr wl (w.heap.size + 1) 36 (row32 []) ∧ Arr wl (w.heap.size + 1 + 1) 36 (row32 (keyB S (4 * i0 + c0))) ∧ Below w.heap.size w wl) (fun c _ => 4 - (intOf c).toNat)
      case atStart => exact ⟨0, by omega, rfl, hR, hO, hnx⟩
      case round =>
        clear hR hO hnx
        obtain ⟨c0, hc0, rfl, hR, hO, hnx⟩ := hrel
        by_cases hc4 : c0 < 4
        · have hkl := keyB_len S (4 * i0 + c0)
          have hnew := unhide HKS c0 hc4
          obtain ⟨k, hk⟩ : ∃ k, k = 4 * i0 + c0 := ⟨_, rfl⟩
          rw [← hk] at hO hkl hnew
          have hk1 : 4 * (i0 : Int) + (c0 : Int) = (k : Int) := by omega
          have hk32 : (k : Int) < 32 := by omega
          have hk0 : (0 : Int) ≤ (k : Int) := by omega
          have HKE := hide hk
          have hfr := hO.frozen k
          have hce := hO.cell k
          have hk32n : k < 32 := by omega
          rw [List.getElem?_eq_getElem (by rw [row32_len (by omega)]; omega)] at hce
          generalize (row32 (keyB S k))[k]'(by rw [row32_len (by omega)]; omega) = old at hce
          obtain ⟨sh, hsh⟩ : ∃ sh, sh = 24 - 8 * c0 := ⟨_, rfl⟩
          have hsh1 : 8 * ((3 : Int) - (c0 : Int)) = (sh : Int) := by omega
          have hsh2 : sh ≤ 24 := by omega
          rw [← hsh] at hnew
          have HNEW := hide hnew
          have HKL := hide hkl
          clear hk hsh hnew hkl
          go_wp2_with fail
          have hkE := HKE.out
          have hkl := HKL.out
          refine ⟨⟨c0 + 1, by omega, by go_num, hR.other _ _ (show w.heap.size + 1 ≠ w.heap.size + 1 + 1 by omega), ?_, hnx.setCell (p := ⟨w.heap.size + 1 + 1, k, none⟩) (show w.heap.size ≤ w.heap.size + 1 + 1 by omega) _⟩, by simp [intOf]; omega⟩
          rw [show 4 * i0 + (c0 + 1) = k + 1 by omega, show k + 1 = 4 * i0 + c0 + 1 by omega]
          have h1 := hO.set k (.int .u8 (x / 2 ^ sh % 256))
          have h2 := row32_set (l := keyB S k) (x := x / 2 ^ sh % 256) (by omega)
          rw [hkl, ← HNEW.out] at h2
          rw [h2, hkE] at h1
          rw [← hkE] at h1 ⊢
          exact h1
        · have hce : c0 = 4 := by omega
          have HCE := hide hce
          clear hce
          go_wp2
          go_roundw
          case rel =>
            have e := HCE.out
            rw [e] at hO
            exact ⟨i0 + 1, by omega, by go_num, hR, hO, hnx⟩
          case measure => simp [intOf]; omega
    · have hie : i0 = 8 := by omega
      rw [hie] at hO
      have hF : row32 (keyB S (4 * 8)) = (keyB S 32).map (Value.int .u8) := by
        unfold row32
        rw [keyB_len]
        simp
      rw [hF] at hO
      have hi48 : (Tryz.prog.info? 36).map (·.size) = some ((keyB S 32).map (Value.int .u8)).length := by rw [List.length_map, keyB_len]; kernel_rfl
      have hl48 : (row32 []).length = ((keyB S 32).map (Value.int .u8)).length := by rw [List.length_map, keyB_len]; rfl
      have hone48 := u8_one (keyB S 32)
      obtain ⟨KV, hKV⟩ : ∃ KV, KV = (keyB S 32).map (Value.int .u8) := ⟨_, rfl⟩
      rw [← hKV] at hO hi48 hl48 hone48
      have HKV := hide hKV
      clear hie hF hKV
      go_wp2_with (first
        | refine wpList_loadArr rfl (.tmp 3) 36 rfl rfl hO Tryz.underlying36 hi48 ?_
        | (refine wpList_storeArr2 (cs' := KV) rfl (.tmp 2) (.tmp 28) 36 rfl rfl rfl hR hi48 hl48 hone48 ?_; intro w8 hR8 hw8))
      exact bodyPost_ret (v := .agg KV.toArray) (results_arr rfl rfl hR8 Tryz.underlying36 hi48) rfl ⟨by rw [HKV.out], hw8.below _ _ hnx (by omega)⟩
end Go.Proofs.YtdafiobonhikiaaGreatDoor
