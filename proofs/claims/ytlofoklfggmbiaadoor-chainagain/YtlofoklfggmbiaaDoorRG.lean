/- What Sum answers: the hash of the parts, laid behind one another. -/
import Derived.Test.YtlofoklfggmbiaaDoorRF
import Derived.Test.YtlofoklfggmbiaaDoorQC
namespace Go.Proofs.YtlofoklfggmbiaaDoor
open Go.RowKit

theorem IsB.blockLt {w : World} {a : Option Addr} {n cap : Nat} {ys : List Int} (h : IsB w (.slice a n cap) ys) (hp : 0 < n) : ∀ ad, a = some ad → ad.block < w.heap.size := by
 have hn := h.lenEq
 obtain ⟨_, a', cp', hv, _, _, _, hc⟩ := h
 injection hv with e1 e2 e3
 obtain ⟨b, off, ha, hcell⟩ := hc (by omega)
 intro ad had
 rw [e1, ha] at had
 injection had with had
 subst had
 exact World.block_lt_of_cell? w ⟨b, off + 0, none⟩ (hcell 0 (by omega))
theorem keyV_len (xs : List Int) : ((shaOf xs).map (Value.int .u8)).length = 32 := by rw [List.length_map, shaOf, keyB_len]

set_option maxRecDepth 100000 in
set_option maxHeartbeats 2000000 in
theorem sums_in (b off n cap : Nat) (xss : List (List Int)) (w : World) (hn : n = xss.length) (hl : n ≤ cap) (hm : cap ≤ 9223372036854775807) (hs : xss.flatten.length ≤ 140737488350000) (hT : TabK w) (hTS : TabS w)
 (hcell : ∀ j, j < n → ∃ u, w.cell? ⟨b, off + j, none⟩ = some u ∧ IsB w u (xss.getD j [])) :
 Calls Tryd.prog 27 #[.slice (some ⟨b, off, none⟩) n cap] w fun e w' => e = .returned (keyV xss.flatten) ∧ Below w.heap.size w w' := by
 have HN := hide hn
 have HC := hide hcell
 have HS := hide hs
 have HT := hide hT
 have hR1 := Arr.new w (row32 []) 32
 have hB1 := (Below.refl w.heap.size w).alloc (Nat.le_refl _) (.cells (row32 []).toArray 32)
 have HTS := hide (hTS.below hB1)
 have hKlt : 1 < w.heap.size := World.block_lt_of_cell? w _ (hT 0 (by decide))
 clear hn hcell hs hT hTS
 go_enter Tryd.func27, Tryd.ntmps27
 go_wp2_with (go_at_call 59; refine (shaNew_calls (unhide HTS)).mono ?_; rintro e w2 ⟨rfl, hH2, hb2⟩)
 have hR2 := hR1.below hb2
 have hB2 := below_then hB1 hb2
 rw [size_alloc] at hH2
 clear hR1 hB1 hb2
 go_loopw [9] (fun i wr => ∃ k : Nat, k ≤ n ∧ i = .int .i64 (k : Int) ∧ IsHash wr (w.heap.size + 1) (xss.take k).flatten ∧ Arr wr w.heap.size 32 (row32 []) ∧ Below w.heap.size w wr) (fun i _ => n - (intOf i).toNat)
 case atStart => exact ⟨0, by omega, rfl, hH2, hR2, hB2⟩
 case round =>
  clear hH2 hR2 hB2
  obtain ⟨k, hk, rfl, hH, hR, hnx⟩ := hrel
  have hsz := hnx.size
  by_cases hlt : k < n
  · have hkx : k < xss.length := by rw [← HN.out]; exact hlt
    obtain ⟨u, hu, hb0⟩ := unhide HC k hlt
    have hb := hb0.below hnx
    have hu1 : wr.cell? ⟨b, off + k, none⟩ = some u := (hnx.cell (p := ⟨b, off + k, none⟩) (World.block_lt_of_cell? w _ hu)).trans hu
    have hft := flatten_take hkx
    have hfl := flatten_le (xss := xss) (k + 1)
    rw [hft, List.length_append] at hfl
    have hfl2 := Nat.le_trans hfl HS.out
    have HFT := hide hft
    generalize hxs : xss.getD k [] = xs at *
    obtain ⟨a, m, cp, rfl⟩ := hb.shape
    have HW : Hid (Calls Tryd.prog 60 #[.pointer (some ⟨w.heap.size + 1, 0, none⟩), .slice a m cp] wr fun e w' => (∃ v, e = .returned v) ∧ IsHash w' (w.heap.size + 1) ((xss.take k).flatten ++ xs) ∧ wr.grownBy w' (some (w.heap.size + 1))) :=
     write_calls hH hb (fun hp ad had => by have := hb0.blockLt hp ad had; omega) hfl2 ((unhide HT).below hnx) (by omega)
    clear hft hfl hfl2 hu hb0 hxs hkx hb
    go_wp2_with (go_at_call 60; refine (unhide HW).mono ?_; rintro e w5 ⟨⟨v5, rfl⟩, hH5, hg5⟩)
    go_roundw
    case rel => exact ⟨k + 1, by omega, by go_num, by rw [HFT.out]; exact hH5, hR.keep (hg5.block _ hR.lt (by simp)), hnx.grown hg5 hsz (fun j hj => by injection hj with hj; omega)⟩
    case measure => simp [intOf]; omega
  · have hkn : k = n := by omega
    have e : xss.take k = xss := List.take_of_length_le (by rw [← HN.out, hkn]; exact Nat.le_refl _)
    rw [e] at hH
    have HK := hide (keys_calls hH ((unhide HT).below hnx))
    have hi48 : (Tryd.prog.info? 32).map (·.size) = some ((shaOf xss.flatten).map (Value.int .u8)).length := by rw [keyV_len]; kernel_rfl
    have hl48 : (row32 []).length = ((shaOf xss.flatten).map (Value.int .u8)).length := by rw [keyV_len]; rfl
    have hone48 := u8_one (shaOf xss.flatten)
    have HKV : Hid (keyV xss.flatten = .agg ((shaOf xss.flatten).map (Value.int .u8)).toArray) := rfl
    rw [HKV.out] at HK
    generalize (shaOf xss.flatten).map (Value.int .u8) = KV at *
    clear hkn e hH
    go_wp2_with (first
     | (go_at_call 61; refine (unhide HK).mono ?_; rintro e w7 ⟨rfl, hb7⟩; have hR7 := hR.below hb7)
     | (refine wpList_storeArr2 (cs' := KV) rfl (.tmp 2) (.tmp 18) 32 rfl rfl rfl hR7 hi48 hl48 hone48 ?_; intro w8 hR8 hw8))
    exact bodyPost_ret (v := .agg KV.toArray) (results_arr rfl rfl hR8 Tryd.underlying32 hi48) rfl ⟨by rw [HKV.out], hw8.below _ _ (below_then hnx hb7) (Nat.le_refl _)⟩

set_option maxRecDepth 100000 in
set_option maxHeartbeats 2000000 in
theorem sums_none (a : Option Addr) (cap : Nat) (w : World) (hT : TabK w) (hTS : TabS w) :
 Calls Tryd.prog 27 #[.slice a 0 cap] w fun e w' => e = .returned (keyV []) ∧ Below w.heap.size w w' := by
 have HT := hide hT
 have hR1 := Arr.new w (row32 []) 32
 have hB1 := (Below.refl w.heap.size w).alloc (Nat.le_refl _) (.cells (row32 []).toArray 32)
 have HTS := hide (hTS.below hB1)
 clear hT hTS
 go_enter Tryd.func27, Tryd.ntmps27
 go_wp2_with (go_at_call 59; refine (shaNew_calls (unhide HTS)).mono ?_; rintro e w2 ⟨rfl, hH2, hb2⟩)
 have hR2 := hR1.below hb2
 have hB2 := below_then hB1 hb2
 rw [size_alloc] at hH2
 clear hR1 hB1 hb2
 refine wp_loop_rounds 1 ?_
 rw [rounds_succ]
 have HK := hide (keys_calls hH2 ((unhide HT).below hB2))
 have hi48 : (Tryd.prog.info? 32).map (·.size) = some ((shaOf []).map (Value.int .u8)).length := by rw [keyV_len]; kernel_rfl
 have hl48 : (row32 []).length = ((shaOf []).map (Value.int .u8)).length := by rw [keyV_len]; rfl
 have hone48 := u8_one (shaOf [])
 have HKV : Hid (keyV [] = .agg ((shaOf []).map (Value.int .u8)).toArray) := rfl
 rw [HKV.out] at HK
 generalize (shaOf []).map (Value.int .u8) = KV at *
 clear hH2
 go_wp2_with (first
  | (go_at_call 61; refine (unhide HK).mono ?_; rintro e w7 ⟨rfl, hb7⟩; have hR7 := hR2.below hb7)
  | (refine wpList_storeArr2 (cs' := KV) rfl (.tmp 2) (.tmp 18) 32 rfl rfl rfl hR7 hi48 hl48 hone48 ?_; intro w8 hR8 hw8))
 exact bodyPost_ret (v := .agg KV.toArray) (results_arr rfl rfl hR8 Tryd.underlying32 hi48) rfl ⟨by rw [HKV.out], hw8.below _ _ (below_then hB2 hb7) (Nat.le_refl _)⟩

/-- sha.Sum, of all parts. -/
theorem sums_calls {w : World} {v : Value} {xss : List (List Int)} (h : IsBB w v xss) (hs : xss.flatten.length ≤ 140737488350000) (hT : TabK w) (hTS : TabS w) :
 Calls Tryd.prog 27 #[v] w fun e w' => e = .returned (keyV xss.flatten) ∧ Below w.heap.size w w' := by
 obtain ⟨a, cap, rfl, hl, hm, hc⟩ := h
 by_cases h0 : 0 < xss.length
 · obtain ⟨b, off, rfl, hcell⟩ := hc h0
   exact sums_in b off _ cap xss w rfl hl hm hs hT hTS hcell
 · obtain rfl : xss = [] := List.eq_nil_of_length_eq_zero (by omega)
   exact sums_none a cap w hT hTS
end Go.Proofs.YtlofoklfggmbiaaDoor
