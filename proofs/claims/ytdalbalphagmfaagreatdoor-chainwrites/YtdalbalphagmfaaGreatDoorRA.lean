/- SHA-256 in plain numbers: the bytes laid out, block by block. What the document's table and laid answer. -/
import Derived.Test.YtdalbalphagmfaaGreatDoorQZ
import Derived.Test.YtdalbalphagmfaaGreatDoorQC
namespace Go.Proofs.YtdalbalphagmfaaGreatDoor
open Go.RowKit

def init8 : H8 := ⟨1779033703, 3144134277, 1013904242, 2773480762, 1359893119, 2600822924, 528734635, 1541459225⟩
theorem init8_ok : init8.ok := by constructor <;> decide
/-- The words behind the first n blocks. -/
def absorbN (s : H8) (xs : List Int) : Nat → H8
 | 0 => s
 | n + 1 => blockF (absorbN s xs n) ((xs.drop (64 * n)).take 64)
theorem absorbN_ok {s : H8} (h : s.ok) (xs : List Int) : ∀ n, (absorbN s xs n).ok
 | 0 => h
 | _ + 1 => blockF_ok _ _
/-- Zeros behind the mark. -/
def zerosOf (L : Nat) : Nat := (119 - L % 64) % 64
theorem zerosOf_fit (L : Nat) : (L + 1 + zerosOf L) % 64 = 56 := by unfold zerosOf; omega
theorem zerosOf_less {L k : Nat} (h : k < zerosOf L) : (L + 1 + k) % 64 ≠ 56 := by unfold zerosOf at h; omega
/-- How many bits, in eight bytes: the first k of them. -/
def cntB (L k : Nat) : List Int := (List.range k).map fun i => (8 * (L : Int)) / 2 ^ (8 * (7 - i)) % 256
theorem cntB_succ (L k : Nat) : cntB L (k + 1) = cntB L k ++ [(8 * (L : Int)) / 2 ^ (8 * (7 - k)) % 256] := by simp [cntB, List.range_succ]
theorem cntB_len (L k : Nat) : (cntB L k).length = k := by simp [cntB]
def laidB (xs : List Int) : List Int := xs ++ [128] ++ List.replicate (zerosOf xs.length) 0 ++ cntB xs.length 8
theorem laidB_len (xs : List Int) : (laidB xs).length = xs.length + 1 + zerosOf xs.length + 8 := by simp [laidB, cntB_len]; omega
theorem laidB_bytes {xs : List Int} (h : ∀ x ∈ xs, 0 ≤ x ∧ x ≤ 255) : ∀ x ∈ laidB xs, 0 ≤ x ∧ x ≤ 255 := by
 intro x hx
 simp only [laidB, List.mem_append, List.mem_cons, List.not_mem_nil, or_false, List.mem_replicate, cntB, List.mem_map] at hx
 rcases hx with ((hx | rfl) | ⟨_, rfl⟩) | ⟨i, _, rfl⟩
 · exact h x hx
 · omega
 · omega
 · omega
/-- The words as bytes, the first k of them. -/
def keyB (s : H8) (k : Nat) : List Int := (List.range k).map fun i => s.at_ (i / 4) / 2 ^ (24 - 8 * (i % 4)) % 256
theorem keyB_succ (s : H8) (k : Nat) : keyB s (k + 1) = keyB s k ++ [s.at_ (k / 4) / 2 ^ (24 - 8 * (k % 4)) % 256] := by simp [keyB, List.range_succ]
theorem keyB_len (s : H8) (k : Nat) : (keyB s k).length = k := by simp [keyB]
/-- The hash of a byte string. -/
def shaOf (xs : List Int) : List Int := keyB (absorbN init8 (laidB xs) ((laidB xs).length / 64)) 32
def keyV (xs : List Int) : Value := .agg ((shaOf xs).map (Value.int .u8)).toArray
end Go.Proofs.YtdalbalphagmfaaGreatDoor

namespace Go.Proofs.YtdalbalphagmfaaGreatDoor
open Go.RowKit

set_option maxRecDepth 100000 in
set_option maxHeartbeats 2000000 in
theorem rtable_calls (w : World) : Calls Tryz.prog 92 #[] w fun e w' => e = .returned (.agg (kTab.map (Value.int .u32)).toArray) ∧ Below w.heap.size w w' := by
 have hi79 : (Tryz.prog.info? 167).map (·.size) = some (kTab.map (Value.int .u32)).length := by kernel_rfl
 have hone : ∀ u ∈ kTab.map (Value.int .u32), u.oneCell' = true := fun u hu => by
  obtain ⟨x, _, rfl⟩ := List.mem_map.1 hu
  rfl
 have HI := hide hi79
 have HO := hide hone
 clear hi79 hone
 go_enter Tryz.func92, Tryz.ntmps92
 have hl0 : (row64 []).length = (kTab.map (Value.int .u32)).length := by kernel_rfl
 go_wp2_with (refine wpList_storeArr2 (cs' := kTab.map (Value.int .u32)) rfl (.tmp 0) (.tmp 1) 167 rfl rfl rfl (Arr.new w (row64 []) _) (unhide HI) hl0 (unhide HO) ?_; intro w4 hC4 hw4)
 exact bodyPost_ret (v := .agg (kTab.map (Value.int .u32)).toArray) (results_arr rfl rfl hC4 Tryz.underlying167 (unhide HI)) rfl ⟨rfl, hw4.below _ _ ((Below.refl _ _).alloc (Nat.le_refl _) _) (Nat.le_refl _)⟩

def sliceLen : Value → Nat
 | .slice _ n _ => n
 | _ => 0
set_option maxRecDepth 100000 in
set_option maxHeartbeats 1000000 in
theorem rlaid_some (ad : Addr) (cap : Nat) (xs : List Int) (w : World) (hl : xs.length ≤ 140737488350000) (hx : ∀ x ∈ xs, 0 ≤ x ∧ x ≤ 255)
 (hc : ∀ j u, (xs.map (Value.int .u8))[j]? = some u → w.cell? (ad.add j) = some u) :
 Calls Tryz.prog 93 #[.slice (some ad) xs.length cap] w fun e w' => ∃ v, e = .returned v ∧ Own8 w' w.heap.size v (laidB xs) ∧ Below w.heap.size w w' := by
 obtain ⟨i0, hi, hz0, hz1, hz2⟩ := info_parts info8
 have HC := hide hc
 have HX := hide hx
 clear hc hx
 go_enter Tryz.func93, Tryz.ntmps93
 go_wp2_with (first
  | (at_builtin; refine wpList_append_own _ rfl _ _ 26 rfl w.heap.size 5 i0 (.int .u8 0) 1 1 Tryz.underlying26 hi hz0 hz1 hz2 rfl (by decide) (.slice none 0 0) 0 [] rfl (World.ownsRow_nil _ _ _ _) ad xs.length cap (xs.map (Value.int .u8)) rfl (by simp) (unhide HC) (u8_one xs) (by unfold maxLen; omega) (by omega) (Nat.le_refl _) ?_; intro v1 w1 hown1 hgrow1 hnil1; have hB1 := (Below.refl w.heap.size w).grown hgrow1 (Nat.le_refl _) (fun k hk => (by simp [Value.ownBlock] at hk)); have hsz1 := hB1.size; rw [Nat.zero_add] at hown1; clear hgrow1 hnil1)
  | (at_builtin; refine wpList_append_own _ rfl _ _ 26 rfl w.heap.size 5 i0 (.int .u8 0) 1 1 Tryz.underlying26 hi hz0 hz1 hz2 rfl (by decide) _ _ _ rfl (hown1.alloc _) ⟨w1.heap.size, 0, none⟩ 1 1 [.int .u8 128] rfl rfl (cells_lit _ _ _) (one_u8 _) (by unfold maxLen; omega) (by omega) (by simp; omega) ?_; intro v2 w2 hown2 hgrow2 hnil2; have hB2 : Below w.heap.size w w2 := (hB1.alloc hsz1 _).grown hgrow2 (by simp; omega) (fun k hk => (hown1.lt k hk).1)))
 have hown2' : w2.ownsRow w.heap.size 5 1 v2 (xs.length + 1) ((xs ++ [128]).map (Value.int .u8)) := by simpa using hown2
 clear hown1 hown2 hgrow2 hnil2 hB1 hsz1
 obtain ⟨L, hL⟩ : ∃ L, L = xs.length := ⟨_, rfl⟩
 rw [← hL] at hown2' hl ⊢
 have HL := hide hL
 clear hL
 go_loopw [3] (fun b wr => ∃ (k N : Nat), k ≤ zerosOf L ∧ Hid (N = L + 1 + k) ∧ N ≤ L + 65 ∧ wr.ownsRow w.heap.size 5 1 b N ((xs ++ [128] ++ List.replicate k 0).map (Value.int .u8)) ∧ Below w.heap.size w wr) (fun b _ => L + 65 - sliceLen b)
 case atStart => exact ⟨0, L + 1, by omega, rfl, by omega, by simpa using hown2', hB2⟩
 case round =>
  clear hown2' hB2
  obtain ⟨k, N, hk, HN, hN, hown, hnx⟩ := hrel
  have hsz := hnx.size
  have hN0 : 0 < N := by have := HN.out; omega
  obtain ⟨g, cp, rfl, hcp, hcpm, hgB, _⟩ := owns_shape hown hN0
  by_cases hkz : k < zerosOf L
  · have hr := zerosOf_less hkz
    rw [← HN.out] at hr
    go_wp2_with (at_builtin; refine wpList_append_own _ rfl _ _ 26 rfl w.heap.size 5 i0 (.int .u8 0) 1 1 Tryz.underlying26 hi hz0 hz1 hz2 rfl (by decide) _ _ _ rfl (hown.alloc _) ⟨wr.heap.size, 0, none⟩ 1 1 [.int .u8 0] rfl rfl (cells_lit _ _ _) (one_u8 _) (by unfold maxLen; omega) (by omega) (by simp; omega) ?_; intro v5 w5 hown5 hgrow5 hnil5)
    have hnx5 : Below w.heap.size w w5 := (hnx.alloc hsz _).grown hgrow5 (by simp; omega) (fun k hk => (hown.lt k hk).1)
    have HN5 : Hid (N + 1 = L + 1 + (k + 1)) := by
     show _ = _
     have := HN.out
     omega
    have hown6 : w5.ownsRow w.heap.size 5 1 v5 (N + 1) ((xs ++ [128] ++ List.replicate (k + 1) 0).map (Value.int .u8)) := by
     rw [List.replicate_succ', ← List.append_assoc, List.map_append]
     exact hown5
    obtain ⟨g5, cp5, rfl, _, _, _, _⟩ := owns_shape hown6 (by omega)
    have hz64 : zerosOf L < 64 := by unfold zerosOf; omega
    have hN1 := HN.out
    go_roundw
    case rel => exact ⟨k + 1, N + 1, by omega, HN5, by omega, hown6, hnx5⟩
    case measure => simp [sliceLen]; omega
  · have hke : k = zerosOf L := by omega
    have hr := zerosOf_fit L
    rw [← hke, ← HN.out] at hr
    have HBASE : Hid (laidB xs = (xs ++ [128] ++ List.replicate k 0) ++ cntB L 8) := by
     show _ = _
     rw [laidB, hke, HL.out]
    have HMEM := HX.out
    generalize xs ++ [128] ++ List.replicate k 0 = base at *
    have hLI : (L : Int) ≤ 140737488350000 := by omega
    have HKE := hide hke
    clear hke
    have hb56 : ((N : Int) % 64 != 56) = false := by
     have : (N : Int) % 64 = 56 := by omega
     simp [this]
    go_wp2_with fail
    go_loopw [3, 5] (fun b i wr => ∃ (t : Nat), t ≤ 8 ∧ i = .int .i64 ((7 : Int) - (t : Int)) ∧ wr.ownsRow w.heap.size 5 1 b (N + t) ((base ++ cntB L t).map (Value.int .u8)) ∧ Below w.heap.size w wr) (fun _ i _ => (intOf i + 1).toNat)
    case atStart => exact ⟨0, by omega, rfl, by simpa [cntB] using hown, hnx⟩
    case round =>
     clear hown hnx hsz
     obtain ⟨t, ht, rfl, hown, hnx⟩ := hrel
     have hsz := hnx.size
     obtain ⟨g5, cp5, rfl, hcp5, hcpm5, hgB5, _⟩ := owns_shape hown (by omega)
     by_cases ht8 : t < 8
     · obtain ⟨j, hj⟩ : ∃ j : Nat, j = 7 - t := ⟨_, rfl⟩
       have ej : (7 : Int) - (t : Int) = (j : Int) := by omega
       have HCN : Hid (cntB L (t + 1) = cntB L t ++ [(8 * (L : Int)) / 2 ^ (8 * j) % 256]) := by
        show _ = _
        rw [cntB_succ, hj]
       have hj7 : j ≤ 7 := by omega
       have ej2 : (j : Int) - 1 = (7 : Int) - ((t + 1 : Nat) : Int) := by omega
       have EJ := hide ej2
       clear ej2 hj
       rw [ej]
       go_wp2_with (at_builtin; refine wpList_append_own _ rfl _ _ 26 rfl w.heap.size 5 i0 (.int .u8 0) 1 1 Tryz.underlying26 hi hz0 hz1 hz2 rfl (by decide) _ _ _ rfl (hown.alloc _) ⟨wr.heap.size, 0, none⟩ 1 1 [.int .u8 _] rfl rfl (cells_lit _ _ _) (one_u8 _) (by unfold maxLen; omega) (by omega) (by simp; omega) ?_; intro v6 w6 hown6 hgrow6 hnil6)
       have hnx6 : Below w.heap.size w w6 := (hnx.alloc hsz _).grown hgrow6 (by simp; omega) (fun k hk => (hown.lt k hk).1)
       have hown7 : w6.ownsRow w.heap.size 5 1 v6 (N + (t + 1)) ((base ++ cntB L (t + 1)).map (Value.int .u8)) := by
        rw [HCN.out, ← List.append_assoc, List.map_append]
        exact hown6
       go_roundw
       case rel => exact ⟨t + 1, by omega, by rw [EJ.out], hown7, hnx6⟩
       case measure => simp [intOf]
     · have hte : t = 8 := by omega
       have HTE := hide hte
       clear hte
       go_wp2
       go_ret
       refine ⟨_, rfl, ⟨?_, laidB_bytes (unhide HX)⟩, hnx⟩
       have e : (laidB xs).length = N + 8 := by
        rw [laidB_len, ← HL.out, ← HKE.out]
        have := HN.out
        omega
       rw [HBASE.out] at e ⊢
       rw [e]
       have hte := HTE.out
       subst hte
       exact hown
set_option maxRecDepth 100000 in
set_option maxHeartbeats 1000000 in
theorem rlaid_nil (w : World) : Calls Tryz.prog 93 #[.slice none 0 0] w fun e w' => ∃ v, e = .returned v ∧ Own8 w' w.heap.size v (laidB []) ∧ Below w.heap.size w w' := by
 obtain ⟨xs, hxs⟩ : ∃ xs : List Int, xs = [] := ⟨_, rfl⟩
 rw [← hxs]
 have HXS := hide hxs
 have HX : Hid (∀ x ∈ xs, 0 ≤ x ∧ x ≤ 255) := by rw [hxs]; intro x hx; simp at hx
 clear hxs
 obtain ⟨i0, hi, hz0, hz1, hz2⟩ := info_parts info8
 go_enter Tryz.func93, Tryz.ntmps93
 go_wp2_with (first
  | (at_builtin; refine wpList_append_own_none rfl _ _ 26 rfl w.heap.size 5 i0 1 Tryz.underlying26 hi (.slice none 0 0) 0 [] rfl (World.ownsRow_nil _ _ _ _) rfl ?_)
  | (at_builtin; refine wpList_append_own _ rfl _ _ 26 rfl w.heap.size 5 i0 (.int .u8 0) 1 1 Tryz.underlying26 hi hz0 hz1 hz2 rfl (by decide) (.slice none 0 0) 0 [] rfl (World.ownsRow_nil _ _ _ _) ⟨w.heap.size, 0, none⟩ 1 1 [.int .u8 128] rfl rfl (cells_lit _ _ _) (one_u8 _) (by unfold maxLen; omega) (by omega) (by simp) ?_; intro v2 w2 hown2 hgrow2 hnil2; have hB2 : Below w.heap.size w w2 := ((Below.refl w.heap.size w).alloc (Nat.le_refl _) _).grown hgrow2 (by simp) (fun k hk => by simp [Value.ownBlock] at hk)))
 have hown2' : w2.ownsRow w.heap.size 5 1 v2 (xs.length + 1) ((xs ++ [128]).map (Value.int .u8)) := by rw [HXS.out]; simpa using hown2
 clear hown2 hgrow2 hnil2
 obtain ⟨L, hL⟩ : ∃ L, L = xs.length := ⟨_, rfl⟩
 rw [← hL] at hown2'
 have HL := hide hL
 have hl : L = 0 := by rw [hL, HXS.out]; rfl
 have HLZ := hide hl
 have hl : L ≤ 0 := by omega
 clear hL
 go_loopw [3] (fun b wr => ∃ (k N : Nat), k ≤ zerosOf L ∧ Hid (N = L + 1 + k) ∧ N ≤ L + 65 ∧ wr.ownsRow w.heap.size 5 1 b N ((xs ++ [128] ++ List.replicate k 0).map (Value.int .u8)) ∧ Below w.heap.size w wr) (fun b _ => L + 65 - sliceLen b)
 case atStart => exact ⟨0, L + 1, by omega, rfl, by omega, by simpa using hown2', hB2⟩
 case round =>
  clear hown2' hB2
  obtain ⟨k, N, hk, HN, hN, hown, hnx⟩ := hrel
  have hsz := hnx.size
  have hN0 : 0 < N := by have := HN.out; omega
  obtain ⟨g, cp, rfl, hcp, hcpm, hgB, _⟩ := owns_shape hown hN0
  by_cases hkz : k < zerosOf L
  · have hr := zerosOf_less hkz
    rw [← HN.out] at hr
    go_wp2_with (at_builtin; refine wpList_append_own _ rfl _ _ 26 rfl w.heap.size 5 i0 (.int .u8 0) 1 1 Tryz.underlying26 hi hz0 hz1 hz2 rfl (by decide) _ _ _ rfl (hown.alloc _) ⟨wr.heap.size, 0, none⟩ 1 1 [.int .u8 0] rfl rfl (cells_lit _ _ _) (one_u8 _) (by unfold maxLen; omega) (by omega) (by simp; omega) ?_; intro v5 w5 hown5 hgrow5 hnil5)
    have hnx5 : Below w.heap.size w w5 := (hnx.alloc hsz _).grown hgrow5 (by simp; omega) (fun k hk => (hown.lt k hk).1)
    have HN5 : Hid (N + 1 = L + 1 + (k + 1)) := by
     show _ = _
     have := HN.out
     omega
    have hown6 : w5.ownsRow w.heap.size 5 1 v5 (N + 1) ((xs ++ [128] ++ List.replicate (k + 1) 0).map (Value.int .u8)) := by
     rw [List.replicate_succ', ← List.append_assoc, List.map_append]
     exact hown5
    obtain ⟨g5, cp5, rfl, _, _, _, _⟩ := owns_shape hown6 (by omega)
    have hz64 : zerosOf L < 64 := by unfold zerosOf; omega
    have hN1 := HN.out
    go_roundw
    case rel => exact ⟨k + 1, N + 1, by omega, HN5, by omega, hown6, hnx5⟩
    case measure => simp [sliceLen]; omega
  · have hke : k = zerosOf L := by omega
    have hr := zerosOf_fit L
    rw [← hke, ← HN.out] at hr
    have HBASE : Hid (laidB xs = (xs ++ [128] ++ List.replicate k 0) ++ cntB L 8) := by
     show _ = _
     rw [laidB, hke, HL.out]
    have HMEM := HX.out
    generalize xs ++ [128] ++ List.replicate k 0 = base at *
    have HKE := hide hke
    clear hke
    have hb56 : ((N : Int) % 64 != 56) = false := by
     have : (N : Int) % 64 = 56 := by omega
     simp [this]
    go_wp2_with fail
    go_loopw [3, 5] (fun b i wr => ∃ (t : Nat), t ≤ 8 ∧ i = .int .i64 ((7 : Int) - (t : Int)) ∧ wr.ownsRow w.heap.size 5 1 b (N + t) ((base ++ cntB L t).map (Value.int .u8)) ∧ Below w.heap.size w wr) (fun _ i _ => (intOf i + 1).toNat)
    case atStart => exact ⟨0, by omega, rfl, by simpa [cntB] using hown, hnx⟩
    case round =>
     clear hown hnx hsz
     obtain ⟨t, ht, rfl, hown, hnx⟩ := hrel
     have hsz := hnx.size
     obtain ⟨g5, cp5, rfl, hcp5, hcpm5, hgB5, _⟩ := owns_shape hown (by omega)
     by_cases ht8 : t < 8
     · obtain ⟨j, hj⟩ : ∃ j : Nat, j = 7 - t := ⟨_, rfl⟩
       have ej : (7 : Int) - (t : Int) = (j : Int) := by omega
       have HCN : Hid (cntB L (t + 1) = cntB L t ++ [0]) := by
        show _ = _
        rw [cntB_succ, HLZ.out]
        simp
       have hj7 : j ≤ 7 := by omega
       have ej2 : (j : Int) - 1 = (7 : Int) - ((t + 1 : Nat) : Int) := by omega
       have EJ := hide ej2
       clear ej2 hj
       rw [ej]
       go_wp2_with (at_builtin; refine wpList_append_own _ rfl _ _ 26 rfl w.heap.size 5 i0 (.int .u8 0) 1 1 Tryz.underlying26 hi hz0 hz1 hz2 rfl (by decide) _ _ _ rfl (hown.alloc _) ⟨wr.heap.size, 0, none⟩ 1 1 [.int .u8 0] rfl rfl (cells_lit _ _ _) (one_u8 _) (by unfold maxLen; omega) (by omega) (by simp; omega) ?_; intro v6 w6 hown6 hgrow6 hnil6)
       have hnx6 : Below w.heap.size w w6 := (hnx.alloc hsz _).grown hgrow6 (by simp; omega) (fun k hk => (hown.lt k hk).1)
       have hown7 : w6.ownsRow w.heap.size 5 1 v6 (N + (t + 1)) ((base ++ cntB L (t + 1)).map (Value.int .u8)) := by
        rw [HCN.out, ← List.append_assoc, List.map_append]
        exact hown6
       go_roundw
       case rel => exact ⟨t + 1, by omega, by rw [EJ.out], hown7, hnx6⟩
       case measure => simp [intOf]
     · have hte : t = 8 := by omega
       have HTE := hide hte
       clear hte
       go_wp2
       go_ret
       refine ⟨_, rfl, ⟨?_, laidB_bytes (unhide HX)⟩, hnx⟩
       have e : (laidB xs).length = N + 8 := by
        rw [laidB_len, ← HL.out, ← HKE.out]
        have := HN.out
        omega
       rw [HBASE.out] at e ⊢
       rw [e]
       have hte := HTE.out
       subst hte
       exact hown
set_option maxRecDepth 100000 in
/-- The bytes with what stands behind them. -/
theorem rlaid_calls {w : World} {v : Value} {xs : List Int} (h : IsB w v xs) (hl : xs.length ≤ 140737488350000) :
 Calls Tryz.prog 93 #[v] w fun e w' => ∃ u, e = .returned u ∧ Own8 w' w.heap.size u (laidB xs) ∧ Below w.heap.size w w' := by
 have h' := h
 obtain ⟨_, a, cap, rfl, _, _, hz, hc⟩ := h
 cases a with
 | none =>
   have h0 : xs = [] := by
    by_cases hp : 0 < xs.length
    · obtain ⟨b, off, ha, _⟩ := hc hp
      cases ha
    · exact List.eq_nil_of_length_eq_zero (by omega)
   subst h0
   rw [hz rfl]
   exact rlaid_nil w
 | some ad => exact rlaid_some ad cap xs w hl h'.mem h'.cells
end Go.Proofs.YtdalbalphagmfaaGreatDoor
