/- What the document's table and laid answer. What the document's Sum answers: the hash of the bytes. The document's Fingerprint. -/
import Derived.Test.YtfhfobikbfbajaaGreatDoorTBJ
import Derived.Test.YtfhfobikbfbajaaGreatDoorTAO
import Derived.Test.YtfhfobikbfbajaaGreatDoorTBH
namespace Go.Proofs.YtfhfobikbfbajaaGreatDoor
open Go.RowKit

set_option maxRecDepth 100000 in
set_option maxHeartbeats 2000000 in
theorem rtable_calls (w : World) : Calls Tryz.prog 45 #[] w fun e w' => e = .returned (.agg (kTab.map (Value.int .u32)).toArray) ∧ Below w.heap.size w w' := by
  have hi79 : (Tryz.prog.info? 99).map (·.size) = some (kTab.map (Value.int .u32)).length := by kernel_rfl
  have hone : ∀ u ∈ kTab.map (Value.int .u32), u.oneCell' = true := fun u hu => by
    obtain ⟨x, _, rfl⟩ := List.mem_map.1 hu
    rfl
  have HI := hide hi79
  have HO := hide hone
  clear hi79 hone
  go_enter Tryz.func45, Tryz.ntmps45
  have hl0 : (row64 []).length = (kTab.map (Value.int .u32)).length := by kernel_rfl
  go_wp2_with (refine wpList_storeArr2 (cs' := kTab.map (Value.int .u32)) rfl (.tmp 0) (.tmp 1) 99 rfl rfl rfl (Arr.new w (row64 []) _) (unhide HI) hl0 (unhide HO) ?_; intro w4 hC4 hw4)
  exact bodyPost_ret (v := .agg (kTab.map (Value.int .u32)).toArray) (results_arr rfl rfl hC4 Tryz.underlying99 (unhide HI)) rfl ⟨rfl, hw4.below _ _ ((Below.refl _ _).alloc (Nat.le_refl _) _) (Nat.le_refl _)⟩

def sliceLen : Value → Nat
  | .slice _ n _ => n
  | _ => 0
set_option maxRecDepth 100000 in
set_option maxHeartbeats 1000000 in
theorem rlaid_some (ad : Addr) (cap : Nat) (xs : List Int) (w : World) (hl : xs.length ≤ 140737488350000) (hx : ∀ x ∈ xs, 0 ≤ x ∧ x ≤ 255)
    (hc : ∀ j u, (xs.map (Value.int .u8))[j]? = some u → w.cell? (ad.add j) = some u) :
    Calls Tryz.prog 46 #[.slice (some ad) xs.length cap] w fun e w' => ∃ v, e = .returned v ∧ Own8 w' w.heap.size v (laidB xs) ∧ Below w.heap.size w w' := by
  obtain ⟨i0, hi, hz0, hz1, hz2⟩ := info_parts info8
  have HC := hide hc
  have HX := hide hx
  clear hc hx
  go_enter Tryz.func46, Tryz.ntmps46
  go_wp2_with (first
    | (at_builtin; refine wpList_append_own _ rfl _ _ 65 rfl w.heap.size 5 i0 (.int .u8 0) 1 1 Tryz.underlying65 hi hz0 hz1 hz2 rfl (by decide) (.slice none 0 0) 0 [] rfl (World.ownsRow_nil _ _ _ _) ad xs.length cap (xs.map (Value.int .u8)) rfl (by simp) (unhide HC) (u8_one xs) (by unfold maxLen; omega) (by omega) (Nat.le_refl _) ?_; intro v1 w1 hown1 hgrow1 hnil1; have hB1 := (Below.refl w.heap.size w).grown hgrow1 (Nat.le_refl _) (fun k hk => (by simp [Value.ownBlock] at hk)); have hsz1 := hB1.size; rw [Nat.zero_add] at hown1; clear hgrow1 hnil1)
    | (at_builtin; refine wpList_append_own _ rfl _ _ 65 rfl w.heap.size 5 i0 (.int .u8 0) 1 1 Tryz.underlying65 hi hz0 hz1 hz2 rfl (by decide) _ _ _ rfl (hown1.alloc _) ⟨w1.heap.size, 0, none⟩ 1 1 [.int .u8 128] rfl rfl (cells_lit _ _ _) (one_u8 _) (by unfold maxLen; omega) (by omega) (by simp; omega) ?_; intro v2 w2 hown2 hgrow2 hnil2; have hB2 : Below w.heap.size w w2 := (hB1.alloc hsz1 _).grown hgrow2 (by simp; omega) (fun k hk => (hown1.lt k hk).1)))
  have hown2' : w2.ownsRow w.heap.size 5 1 v2 (xs.length + 1) ((xs ++ [128]).map (Value.int .u8)) := by simpa using hown2
  clear hown1 hown2 hgrow2 hnil2 hB1 hsz1
  obtain ⟨L, hL⟩ : ∃ L, L = xs.length := ⟨_, rfl⟩
  rw [← hL] at hown2' hl ⊢
  have HL := hide hL
  clear hL
  go_loopw [3] (fun b wr => ∃ (k N : Nat), k ≤ zerosOf L ∧ Hid (N = L + 1 + k) ∧ N ≤ L + 65 ∧ wr.ownsRow w.heap.size 5 1 b N ((xs ++ [128] ++ List.replicate k 0).map (Value.int .u8)) ∧ Below w.heap.size w wr) (fun b _ => L + 65 - sliceLen b)
  case atStart => exact ⟨0, L + 1, by omega, rfl, by omega, by simpa using hown2', hB2⟩
  case round =>
    clear hown2' hB2
    obtain ⟨k, N, hk, HN, hN, hown, hnx⟩ := hrel
    have hsz := hnx.size
    have hN0 : 0 < N := by have := HN.out; omega
    obtain ⟨g, cp, rfl, hcp, hcpm, hgB, _⟩ := owns_shape hown hN0
    by_cases hkz : k < zerosOf L
    · have hr := zerosOf_less hkz
      rw [← HN.out] at hr
      go_wp2_with (at_builtin; refine wpList_append_own _ rfl _ _ 65 rfl w.heap.size 5 i0 (.int .u8 0) 1 1 Tryz.underlying65 hi hz0 hz1 hz2 rfl (by decide) _ _ _ rfl (hown.alloc _) ⟨wr.heap.size, 0, none⟩ 1 1 [.int .u8 0] rfl rfl (cells_lit _ _ _) (one_u8 _) (by unfold maxLen; omega) (by omega) (by simp; omega) ?_; intro v5 w5 hown5 hgrow5 hnil5)
      have hnx5 : Below w.heap.size w w5 := (hnx.alloc hsz _).grown hgrow5 (by simp; omega) (fun k hk => (hown.lt k hk).1)
      have HN5 : Hid (N + 1 = L + 1 + (k + 1)) := by
        show _ = _
        have := HN.out
        omega
      have hown6 : w5.ownsRow w.heap.size 5 1 v5 (N + 1) ((xs ++ [128] ++ List.replicate (k + 1) 0).map (Value.int .u8)) := by
        rw [List.replicate_succ', ← List.append_assoc, List.map_append]
        exact hown5
      obtain ⟨g5, cp5, rfl, _, _, _, _⟩ := owns_shape hown6 (by omega)
      have hz64 : zerosOf L < 64 := by unfold zerosOf; omega
      have hN1 := HN.out
      go_roundw
      case rel => exact ⟨k + 1, N + 1, by omega, HN5, by omega, hown6, hnx5⟩
      case measure => simp [sliceLen]; omega
    · have hke : k = zerosOf L := by omega
      have hr := zerosOf_fit L
      rw [← hke, ← HN.out] at hr
      have HBASE : Hid (laidB xs = (xs ++ [128] ++ List.replicate k 0) ++ cntB L 8) := by
        show _ = _
        rw [laidB, hke, HL.out]
      have HMEM := HX.out
      generalize xs ++ [128] ++ List.replicate k 0 = base at *
      have hLI : (L : Int) ≤ 140737488350000 := by omega
      have HKE := hide hke
      clear hke
      have hb56 : ((N : Int) % 64 != 56) = false := by
        have : (N : Int) % 64 = 56 := by omega
        simp [this]
      go_wp2_with fail
      go_loopw [3, 5] (fun b i wr => ∃ (t : Nat), t ≤ 8 ∧ i = .int .i64 ((7 : Int) - (t : Int)) ∧ wr.ownsRow w.heap.size 5 1 b (N + t) ((base ++ cntB L t).map (Value.int .u8)) ∧ Below w.heap.size w wr) (fun _ i _ => (intOf i + 1).toNat)
      case atStart => exact ⟨0, by omega, rfl, by simpa [cntB] using hown, hnx⟩
      case round =>
        clear hown hnx hsz
        obtain ⟨t, ht, rfl, hown, hnx⟩ := hrel
        have hsz := hnx.size
        obtain ⟨g5, cp5, rfl, hcp5, hcpm5, hgB5, _⟩ := owns_shape hown (by omega)
        by_cases ht8 : t < 8
        · obtain ⟨j, hj⟩ : ∃ j : Nat, j = 7 - t := ⟨_, rfl⟩
          have ej : (7 : Int) - (t : Int) = (j : Int) := by omega
          have HCN : Hid (cntB L (t + 1) = cntB L t ++ [(8 * (L : Int)) / 2 ^ (8 * j) % 256]) := by
            show _ = _
            rw [cntB_succ, hj]
          have hj7 : j ≤ 7 := by omega
          have ej2 : (j : Int) - 1 = (7 : Int) - ((t + 1 : Nat) : Int) := by omega
          have EJ := hide ej2
          clear ej2 hj
          rw [ej]
          go_wp2_with (at_builtin; refine wpList_append_own _ rfl _ _ 65 rfl w.heap.size 5 i0 (.int .u8 0) 1 1 Tryz.underlying65 hi hz0 hz1 hz2 rfl (by decide) _ _ _ rfl (hown.alloc _) ⟨wr.heap.size, 0, none⟩ 1 1 [.int .u8 _] rfl rfl (cells_lit _ _ _) (one_u8 _) (by unfold maxLen; omega) (by omega) (by simp; omega) ?_; intro v6 w6 hown6 hgrow6 hnil6)
          have hnx6 : Below w.heap.size w w6 := (hnx.alloc hsz _).grown hgrow6 (by simp; omega) (fun k hk => (hown.lt k hk).1)
          have hown7 : w6.ownsRow w.heap.size 5 1 v6 (N + (t + 1)) ((base ++ cntB L (t + 1)).map (Value.int .u8)) := by
            rw [HCN.out, ← List.append_assoc, List.map_append]
            exact hown6
          go_roundw
          case rel => exact ⟨t + 1, by omega, by rw [EJ.out], hown7, hnx6⟩
          case measure => simp [intOf]
        · have hte : t = 8 := by omega
          have HTE := hide hte
          clear hte
          go_wp2
          go_ret
          refine ⟨_, rfl, ⟨?_, laidB_bytes (unhide HX)⟩, hnx⟩
          have e : (laidB xs).length = N + 8 := by
            rw [laidB_len, ← HL.out, ← HKE.out]
            have := HN.out
            omega
          rw [HBASE.out] at e ⊢
          rw [e]
          have hte := HTE.out
          subst hte
          exact hown
set_option maxRecDepth 100000 in
set_option maxHeartbeats 1000000 in
theorem rlaid_nil (w : World) : Calls Tryz.prog 46 #[.slice none 0 0] w fun e w' => ∃ v, e = .returned v ∧ Own8 w' w.heap.size v (laidB []) ∧ Below w.heap.size w w' := by
  obtain ⟨xs, hxs⟩ : ∃ xs : List Int, xs = [] := ⟨_, rfl⟩
  rw [← hxs]
  have HXS := hide hxs
  have HX : Hid (∀ x ∈ xs, 0 ≤ x ∧ x ≤ 255) := by rw [hxs]; intro x hx; simp at hx
  clear hxs
  obtain ⟨i0, hi, hz0, hz1, hz2⟩ := info_parts info8
  go_enter Tryz.func46, Tryz.ntmps46
  go_wp2_with (first
    | (at_builtin; refine wpList_append_own_none rfl _ _ 65 rfl w.heap.size 5 i0 1 Tryz.underlying65 hi (.slice none 0 0) 0 [] rfl (World.ownsRow_nil _ _ _ _) rfl ?_)
    | (at_builtin; refine wpList_append_own _ rfl _ _ 65 rfl w.heap.size 5 i0 (.int .u8 0) 1 1 Tryz.underlying65 hi hz0 hz1 hz2 rfl (by decide) (.slice none 0 0) 0 [] rfl (World.ownsRow_nil _ _ _ _) ⟨w.heap.size, 0, none⟩ 1 1 [.int .u8 128] rfl rfl (cells_lit _ _ _) (one_u8 _) (by unfold maxLen; omega) (by omega) (by simp) ?_; intro v2 w2 hown2 hgrow2 hnil2; have hB2 : Below w.heap.size w w2 := ((Below.refl w.heap.size w).alloc (Nat.le_refl _) _).grown hgrow2 (by simp) (fun k hk => by simp [Value.ownBlock] at hk)))
  have hown2' : w2.ownsRow w.heap.size 5 1 v2 (xs.length + 1) ((xs ++ [128]).map (Value.int .u8)) := by rw [HXS.out]; simpa using hown2
  clear hown2 hgrow2 hnil2
  obtain ⟨L, hL⟩ : ∃ L, L = xs.length := ⟨_, rfl⟩
  rw [← hL] at hown2'
  have HL := hide hL
  have hl : L = 0 := by rw [hL, HXS.out]; rfl
  have HLZ := hide hl
  have hl : L ≤ 0 := by omega
  clear hL
  go_loopw [3] (fun b wr => ∃ (k N : Nat), k ≤ zerosOf L ∧ Hid (N = L + 1 + k) ∧ N ≤ L + 65 ∧ wr.ownsRow w.heap.size 5 1 b N ((xs ++ [128] ++ List.replicate k 0).map (Value.int .u8)) ∧ Below w.heap.size w wr) (fun b _ => L + 65 - sliceLen b)
  case atStart => exact ⟨0, L + 1, by omega, rfl, by omega, by simpa using hown2', hB2⟩
  case round =>
    clear hown2' hB2
    obtain ⟨k, N, hk, HN, hN, hown, hnx⟩ := hrel
    have hsz := hnx.size
    have hN0 : 0 < N := by have := HN.out; omega
    obtain ⟨g, cp, rfl, hcp, hcpm, hgB, _⟩ := owns_shape hown hN0
    by_cases hkz : k < zerosOf L
    · have hr := zerosOf_less hkz
      rw [← HN.out] at hr
      go_wp2_with (at_builtin; refine wpList_append_own _ rfl _ _ 65 rfl w.heap.size 5 i0 (.int .u8 0) 1 1 Tryz.underlying65 hi hz0 hz1 hz2 rfl (by decide) _ _ _ rfl (hown.alloc _) ⟨wr.heap.size, 0, none⟩ 1 1 [.int .u8 0] rfl rfl (cells_lit _ _ _) (one_u8 _) (by unfold maxLen; omega) (by omega) (by simp; omega) ?_; intro v5 w5 hown5 hgrow5 hnil5)
      have hnx5 : Below w.heap.size w w5 := (hnx.alloc hsz _).grown hgrow5 (by simp; omega) (fun k hk => (hown.lt k hk).1)
      have HN5 : Hid (N + 1 = L + 1 + (k + 1)) := by
        show _ = _
        have := HN.out
        omega
      have hown6 : w5.ownsRow w.heap.size 5 1 v5 (N + 1) ((xs ++ [128] ++ List.replicate (k + 1) 0).map (Value.int .u8)) := by
        rw [List.replicate_succ', ← List.append_assoc, List.map_append]
        exact hown5
      obtain ⟨g5, cp5, rfl, _, _, _, _⟩ := owns_shape hown6 (by omega)
      have hz64 : zerosOf L < 64 := by unfold zerosOf; omega
      have hN1 := HN.out
      go_roundw
      case rel => exact ⟨k + 1, N + 1, by omega, HN5, by omega, hown6, hnx5⟩
      case measure => simp [sliceLen]; omega
    · have hke : k = zerosOf L := by omega
      have hr := zerosOf_fit L
      rw [← hke, ← HN.out] at hr
      have HBASE : Hid (laidB xs = (xs ++ [128] ++ List.replicate k 0) ++ cntB L 8) := by
        show _ = _
        rw [laidB, hke, HL.out]
      have HMEM := HX.out
      generalize xs ++ [128] ++ List.replicate k 0 = base at *
      have HKE := hide hke
      clear hke
      have hb56 : ((N : Int) % 64 != 56) = false := by
        have : (N : Int) % 64 = 56 := by omega
        simp [this]
      go_wp2_with fail
      go_loopw [3, 5] (fun b i wr => ∃ (t : Nat), t ≤ 8 ∧ i = .int .i64 ((7 : Int) - (t : Int)) ∧ wr.ownsRow w.heap.size 5 1 b (N + t) ((base ++ cntB L t).map (Value.int .u8)) ∧ Below w.heap.size w wr) (fun _ i _ => (intOf i + 1).toNat)
      case atStart => exact ⟨0, by omega, rfl, by simpa [cntB] using hown, hnx⟩
      case round =>
        clear hown hnx hsz
        obtain ⟨t, ht, rfl, hown, hnx⟩ := hrel
        have hsz := hnx.size
        obtain ⟨g5, cp5, rfl, hcp5, hcpm5, hgB5, _⟩ := owns_shape hown (by omega)
        by_cases ht8 : t < 8
        · obtain ⟨j, hj⟩ : ∃ j : Nat, j = 7 - t := ⟨_, rfl⟩
          have ej : (7 : Int) - (t : Int) = (j : Int) := by omega
          have HCN : Hid (cntB L (t + 1) = cntB L t ++ [0]) := by
            show _ = _
            rw [cntB_succ, HLZ.out]
            simp
          have hj7 : j ≤ 7 := by omega
          have ej2 : (j : Int) - 1 = (7 : Int) - ((t + 1 : Nat) : Int) := by omega
          have EJ := hide ej2
          clear ej2 hj
          rw [ej]
          go_wp2_with (at_builtin; refine wpList_append_own _ rfl _ _ 65 rfl w.heap.size 5 i0 (.int .u8 0) 1 1 Tryz.underlying65 hi hz0 hz1 hz2 rfl (by decide) _ _ _ rfl (hown.alloc _) ⟨wr.heap.size, 0, none⟩ 1 1 [.int .u8 0] rfl rfl (cells_lit _ _ _) (one_u8 _) (by unfold maxLen; omega) (by omega) (by simp; omega) ?_; intro v6 w6 hown6 hgrow6 hnil6)
          have hnx6 : Below w.heap.size w w6 := (hnx.alloc hsz _).grown hgrow6 (by simp; omega) (fun k hk => (hown.lt k hk).1)
          have hown7 : w6.ownsRow w.heap.size 5 1 v6 (N + (t + 1)) ((base ++ cntB L (t + 1)).map (Value.int .u8)) := by
            rw [HCN.out, ← List.append_assoc, List.map_append]
            exact hown6
          go_roundw
          case rel => exact ⟨t + 1, by omega, by rw [EJ.out], hown7, hnx6⟩
          case measure => simp [intOf]
        · have hte : t = 8 := by omega
          have HTE := hide hte
          clear hte
          go_wp2
          go_ret
          refine ⟨_, rfl, ⟨?_, laidB_bytes (unhide HX)⟩, hnx⟩
          have e : (laidB xs).length = N + 8 := by
            rw [laidB_len, ← HL.out, ← HKE.out]
            have := HN.out
            omega
          rw [HBASE.out] at e ⊢
          rw [e]
          have hte := HTE.out
          subst hte
          exact hown
set_option maxRecDepth 100000 in
/-- The bytes with what stands behind them. -/
theorem rlaid_calls {w : World} {v : Value} {xs : List Int} (h : IsB w v xs) (hl : xs.length ≤ 140737488350000) :
    Calls Tryz.prog 46 #[v] w fun e w' => ∃ u, e = .returned u ∧ Own8 w' w.heap.size u (laidB xs) ∧ Below w.heap.size w w' := by
  have h' := h
  obtain ⟨_, a, cap, rfl, _, _, hz, hc⟩ := h
  cases a with
  | none =>
    have h0 : xs = [] := by
      by_cases hp : 0 < xs.length
      · obtain ⟨b, off, ha, _⟩ := hc hp
        cases ha
      · exact List.eq_nil_of_length_eq_zero (by omega)
    subst h0
    rw [hz rfl]
    exact rlaid_nil w
  | some ad => exact rlaid_some ad cap xs w hl h'.mem h'.cells
end Go.Proofs.YtfhfobikbfbajaaGreatDoor

namespace Go.Proofs.YtfhfobikbfbajaaGreatDoor
open Go.RowKit

def row32 (l : List Int) : List Value := (l ++ List.replicate (32 - l.length) 0).map (Value.int .u8)
theorem row32_set {l : List Int} {x : Int} (h : l.length < 32) : (row32 l).set l.length (.int .u8 x) = row32 (l ++ [x]) := by
  unfold row32
  have e : 32 - l.length = (32 - (l ++ [x]).length) + 1 := by simp; omega
  rw [e, List.replicate_succ, List.map_append, List.map_append, List.map_append, List.set_append_right _ _ (by simp)]
  simp
theorem row32_len {l : List Int} (h : l.length ≤ 32) : (row32 l).length = 32 := by
  simp [row32]; omega
theorem H8.vals_one (s : H8) : ∀ u ∈ s.vals, u.oneCell' = true := by
  intro u hu
  simp only [H8.vals, List.mem_cons, List.not_mem_nil, or_false] at hu
  rcases hu with rfl | rfl | rfl | rfl | rfl | rfl | rfl | rfl <;> rfl
theorem H8.at_bd {s : H8} (h : s.ok) : ∀ j, j < 8 → 0 ≤ s.at_ j ∧ s.at_ j < 4294967296
  | 0, _ => h.a | 1, _ => h.b | 2, _ => h.c | 3, _ => h.d | 4, _ => h.e | 5, _ => h.f | 6, _ => h.g | 7, _ => h.h
  | _ + 8, h' => by omega
theorem block_bytes {ys : List Int} (h : ∀ x ∈ ys, 0 ≤ x ∧ x ≤ 255) (n : Nat) : ∀ j : Nat, 0 ≤ ((ys.drop (64 * n)).take 64).getD j 0 ∧ ((ys.drop (64 * n)).take 64).getD j 0 ≤ 255 := by
  intro j
  rw [List.getD_eq_getElem?_getD]
  exact bytes_mem (fun x hx => h x (List.mem_of_mem_drop (List.mem_of_mem_take hx))) j
theorem block_at {ys : List Int} {n j : Nat} (hj : j < 64) : ((ys.drop (64 * n)).take 64).getD j 0 = ys.getD (64 * n + j) 0 := by
  rw [List.getD_eq_getElem?_getD, List.getD_eq_getElem?_getD, List.getElem?_take_of_lt hj, List.getElem?_drop]

theorem IsB.wrote {w w' : World} {gb off n cap g : Nat} {ys : List Int} (h : IsB w (.slice (some ⟨gb, off, none⟩) n cap) ys) (hw : Wrote w w' g) (hne : gb ≠ g) : IsB w' (.slice (some ⟨gb, off, none⟩) n cap) ys := by
  obtain ⟨h1, a, cp, hv, hl, hm, hz, hc⟩ := h
  refine ⟨h1, a, cp, hv, hl, hm, hz, fun hp => ?_⟩
  obtain ⟨b, o, ha, hcell⟩ := hc hp
  injection hv with e1 e2 e3
  have e4 := e1.trans ha
  injection e4 with e4
  injection e4 with e5 e6
  subst e5
  exact ⟨gb, o, ha, fun j hj => (World.cell?_of_block (a := ⟨gb, o + j, none⟩) (hw.other gb hne)).trans (hcell j hj)⟩

set_option maxRecDepth 100000 in
set_option maxHeartbeats 2000000 in
theorem rsum_calls {w : World} {v : Value} {xs : List Int} (h : IsB w v xs) (hl : xs.length ≤ 140737488350000) :
    Calls Tryz.prog 29 #[v] w fun e w' => e = .returned (keyV xs) ∧ Below w.heap.size w w' := by
  have HI := hide h
  have hlenL := laidB_len xs
  have hz64 : zerosOf xs.length < 64 := by unfold zerosOf; omega
  have hfit := zerosOf_fit xs.length
  obtain ⟨NB, hNB⟩ : ∃ NB, (laidB xs).length = 64 * NB := ⟨(laidB xs).length / 64, by omega⟩
  have hNBb : 64 * NB ≤ 140737488350200 := by omega
  have HNB := hide hNB
  have HL := hide hl
  clear hlenL hz64 hfit hNB hl
  have HMEM : Hid (∀ x ∈ laidB xs, 0 ≤ x ∧ x ≤ 255) := laidB_bytes h.mem
  obtain ⟨a0, n0, c0, rfl⟩ := h.shape
  clear h
  have hi79 : (Tryz.prog.info? 99).map (·.size) = some (kTab.map (Value.int .u32)).length := by kernel_rfl
  have hone79 : ∀ u ∈ kTab.map (Value.int .u32), u.oneCell' = true := fun u hu => by
    obtain ⟨x, _, rfl⟩ := List.mem_map.1 hu
    rfl
  have hl79 : (row64 []).length = (kTab.map (Value.int .u32)).length := by kernel_rfl
  obtain ⟨KT, hKT⟩ : ∃ KT, KT = kTab.map (Value.int .u32) := ⟨_, rfl⟩
  rw [← hKT] at hi79 hone79 hl79
  have HKT := hide hKT
  clear hKT
  go_enter Tryz.func29, Tryz.ntmps29
  go_wp2_with fail
  have hR0 := (Arr.new w (row32 []) 32).alloc (.cells init8.vals.toArray 98)
  have hS0 := Arr.new (w.alloc (.cells (row32 []).toArray 32)) init8.vals 98
  rw [size_alloc] at hS0
  have hb1 : Below w.heap.size w ((w.alloc (.cells (row32 []).toArray 32)).alloc (.cells init8.vals.toArray 98)) := by
    have b1 := (Below.refl w.heap.size w).alloc (Nat.le_refl _) (.cells (row32 []).toArray 32)
    exact b1.alloc b1.size _
  have HR0 : Hid (Arr _ w.heap.size 32 (row32 [])) := hR0
  have HS0 : Hid (Arr _ (w.heap.size + 1) 98 init8.vals) := hS0
  have HB1 := hide hb1
  clear hR0 hS0 hb1
  refine (rtable_calls _).mono ?_
  rintro e w2 ⟨rfl, hb2⟩
  have hR2 := (unhide HR0).below hb2
  have hS2 := (unhide HS0).below hb2
  have hB2 := below_then (unhide HB1) hb2
  clear HR0 HS0 HB1 hb2
  rw [← HKT.out]
  have hRl := hR2.lt
  have hSl := hS2.lt
  have hB2s := hB2.size
  go_wp2_with (refine wpList_storeArr2 (cs' := KT) rfl (.tmp 4) (.tmp 11) 99 rfl rfl rfl (Arr.new w2 (row64 []) _) hi79 hl79 hone79 ?_; intro w3 hK3 hw3)
  have hR3 := (hR2.alloc (.cells (row64 []).toArray 99)).wrote hw3 (by omega)
  have hS3 := (hS2.alloc (.cells (row64 []).toArray 99)).wrote hw3 (by omega)
  have hB3 := hw3.below _ _ (hB2.alloc hB2.size _) hB2.size
  generalize w2.heap.size = gK at *
  clear hR2 hS2 hB2 hw3
  refine (rlaid_calls ((unhide HI).below hB3) (unhide HL)).mono ?_
  rintro e w4 ⟨u, rfl, hO4, hb4⟩
  obtain ⟨gb, cb, rfl, hgb, _⟩ := hO4.head (by have := HNB.out; have := laidB_len xs; omega)
  have hI4 := hO4.isB
  have hrm := hI4.room
  rw [HNB.out] at hI4 hrm ⊢
  have hcm := hI4.len
  have hR4 := hR3.below hb4
  have hS4 := hS3.below hb4
  have hK4 := hK3.below hb4
  have hB4 := below_then hB3 hb4
  have hcb : cb ≤ 9223372036854775807 := by
    obtain ⟨_, a', cp', hv, _, hm', _⟩ := hI4
    injection hv with e1 e2 e3
    omega
  have hgbl : w.heap.size + 1 < gb := by have := hS3.lt; omega
  have hgKl : w.heap.size + 1 < gK := hSl
  clear hR3 hS3 hK3 hB3 hb4 hO4 hB2s
  go_wp2_with fail
  go_loopw [6] (fun i wr => ∃ n : Nat, n ≤ NB ∧ i = .int .i64 ((64 * n : Nat) : Int) ∧ Arr wr w.heap.size 32 (row32 []) ∧ Arr wr (w.heap.size + 1) 98 (absorbN init8 (laidB xs) n).vals ∧ Arr wr gK 99 KT ∧ IsB wr (.slice (some ⟨gb, 0, none⟩) (64 * NB) cb) (laidB xs) ∧ Below w.heap.size w wr)
    (fun i _ => 64 * NB - (intOf i).toNat)
  case atStart => exact ⟨0, by omega, rfl, hR4, hS4, hK4, hI4, hB4⟩
  case round =>
    clear hR4 hS4 hK4 hI4 hB4 hcm
    obtain ⟨n, hn, rfl, hR, hS, hK, hI, hnx⟩ := hrel
    by_cases hnN : n < NB
    · obtain ⟨A, hA⟩ : ∃ A, A = 64 * n := ⟨_, rfl⟩
      rw [← hA]
      have hA64 : A + 64 ≤ 64 * NB := by omega
      have hblk := rblock_in (absorbN init8 (laidB xs) n) gb 0 (64 * NB) cb A (((laidB xs).drop (64 * n)).take 64) wr hrm hcb hA64 (block_bytes (unhide HMEM) n) (fun j hj => by
        obtain ⟨_, a', cp', hv, _, _, _, hc⟩ := hI
        obtain ⟨b', off', ha, hcell⟩ := hc (by rw [HNB.out]; omega)
        injection hv with e1 e2 e3
        rw [ha] at e1
        injection e1 with e1
        injection e1 with e1 e4
        subst e1 e4
        rw [hcell (A + j) (by rw [HNB.out]; omega), block_at hj, hA]) (absorbN_ok init8_ok _ n)
      rw [← HKT.out] at hblk
      have HBLK := hide hblk
      have HAE := hide hA
      have hi8 : (Tryz.prog.info? 98).map (·.size) = some (absorbN init8 (laidB xs) n).vals.length := by kernel_rfl
      have hi8' : (Tryz.prog.info? 98).map (·.size) = some (absorbN init8 (laidB xs) (n + 1)).vals.length := by kernel_rfl
      have HVE : Hid ((blockF (absorbN init8 (laidB xs) n) (((laidB xs).drop (64 * n)).take 64)).vals = (absorbN init8 (laidB xs) (n + 1)).vals) := rfl
      have hone8 := H8.vals_one (absorbN init8 (laidB xs) (n + 1))
      have hl8 : (absorbN init8 (laidB xs) n).vals.length = (absorbN init8 (laidB xs) (n + 1)).vals.length := rfl
      rw [HVE.out] at HBLK
      generalize (absorbN init8 (laidB xs) n).vals = SV at *
      obtain ⟨SV', hSV⟩ : ∃ SV', SV' = (absorbN init8 (laidB xs) (n + 1)).vals := ⟨_, rfl⟩
      rw [← hSV] at HBLK hi8' hone8 hl8
      have HSV := hide hSV
      clear hSV HVE
      clear hblk hA
      go_wp2_with (first
        | refine wpList_loadArr rfl (.tmp 3) 98 rfl rfl hS Tryz.underlying98 hi8 ?_
        | refine wpList_loadArr rfl (.tmp 4) 99 rfl rfl hK Tryz.underlying99 hi79 ?_
        | (go_at_call 47; refine (unhide HBLK).mono ?_; rintro e w5 ⟨rfl, hb5⟩; have hS5 := hS.below hb5)
        | (refine wpList_storeArr2 (cs' := SV') rfl (.tmp 3) (.tmp 24) 98 rfl rfl rfl hS5 hi8' hl8 hone8 ?_; intro w6 hS6 hw6))
      have hAE := HAE.out
      refine ⟨⟨n + 1, by omega, by rw [hAE]; congr 1, (hR.below hb5).wrote hw6 (by omega), ?_, (hK.below hb5).wrote hw6 (by omega), (hI.below hb5).wrote hw6 (by omega), hw6.below _ _ (below_then hnx hb5) (by omega)⟩, by simp [intOf]; omega⟩
      rw [← HSV.out]
      exact hS6
    · have hne : n = NB := by omega
      obtain ⟨S, hS'⟩ : ∃ S, S = absorbN init8 (laidB xs) ((laidB xs).length / 64) := ⟨_, rfl⟩
      have hSe : absorbN init8 (laidB xs) n = S := by rw [hS', HNB.out, hne, Nat.mul_div_cancel_left _ (by decide)]
      have hok : S.ok := by rw [hS']; exact absorbN_ok init8_ok _ _
      rw [hSe] at hS
      have HKEY : Hid (keyV xs = .agg ((keyB S 32).map (Value.int .u8)).toArray) := by
        show _ = _
        rw [keyV, shaOf, hS']
      have HNE := hide hne
      clear hne hSe hS' hK hI
      have hRl2 := hR.lt
      have hSl2 := hS.lt
      go_wp2_with fail
      have hO := Arr.new wr (row32 []) 32
      have hR' := hR.alloc (.cells (row32 []).toArray 32)
      have hS' := hS.alloc (.cells (row32 []).toArray 32)
      have hB' := hnx.alloc hnx.size (.cells (row32 []).toArray 32)
      have hgO : w.heap.size + 1 < wr.heap.size := hSl2
      clear hR hS hnx hRl2 hSl2
      generalize wr.heap.size = gO at *
      go_loopw [8] (fun i wl => ∃ i0 : Nat, i0 ≤ 8 ∧ i = .int .i64 (i0 : Int) ∧ Arr wl w.heap.size 32 (row32 []) ∧ Arr wl (w.heap.size + 1) 98 S.vals ∧ Arr wl gO 32 (row32 (keyB S (4 * i0))) ∧ Below w.heap.size w wl) (fun i _ => 8 - (intOf i).toNat)
      case atStart => exact ⟨0, by omega, rfl, hR', hS', hO, hB'⟩
      case round =>
        clear hO hR' hS' hB'
        obtain ⟨i0, hi0, rfl, hR, hS, hO, hnx⟩ := hrel
        by_cases hi8 : i0 < 8
        · have hSi := hS.cell i0
          rw [H8.vals_at S i0 hi8] at hSi
          have hSb := H8.at_bd hok i0 hi8
          have HKS : Hid (∀ c, c < 4 → keyB S (4 * i0 + c + 1) = keyB S (4 * i0 + c) ++ [S.at_ i0 / 2 ^ (24 - 8 * c) % 256]) := fun c hc => by
            rw [keyB_succ, show (4 * i0 + c) / 4 = i0 by omega, show (4 * i0 + c) % 4 = c by omega]
          obtain ⟨x, hx⟩ : ∃ x, x = S.at_ i0 := ⟨_, rfl⟩
          rw [← hx] at hSi hSb HKS
          clear hx
          have hiI : (i0 : Int) < 8 := by omega
          have hiI0 : (0 : Int) ≤ (i0 : Int) := by omega
          go_wp2_with fail
          go_loopw [9] (fun c wl => ∃ c0 : Nat, c0 ≤ 4 ∧ c = .int .i64 (c0 : Int) ∧ Arr wl w.heap.size 32 (row32 []) ∧ Arr wl (w.heap.size + 1) 98 S.vals ∧ Arr wl gO 32 (row32 (keyB S (4 * i0 + c0))) ∧ Below w.heap.size w wl ∧ wl.cell? ⟨w.heap.size + 1, i0, none⟩ = some (.int .u32 x)) (fun c _ => 4 - (intOf c).toNat)
          case atStart => exact ⟨0, by omega, rfl, hR, hS, hO, hnx, hSi⟩
          case round =>
            clear hR hS hO hnx hSi
            obtain ⟨c0, hc0, rfl, hR, hS, hO, hnx, hSi⟩ := hrel
            by_cases hc4 : c0 < 4
            · have hkl := keyB_len S (4 * i0 + c0)
              have hnew := unhide HKS c0 hc4
              obtain ⟨k, hk⟩ : ∃ k, k = 4 * i0 + c0 := ⟨_, rfl⟩
              rw [← hk] at hO hkl hnew
              have hk1 : 4 * (i0 : Int) + (c0 : Int) = (k : Int) := by omega
              have hk32 : (k : Int) < 32 := by omega
              have hk0 : (0 : Int) ≤ (k : Int) := by omega
              have HKE := hide hk
              have hfr := hO.frozen k
              have hce := hO.cell k
              have hk32n : k < 32 := by omega
              rw [List.getElem?_eq_getElem (by rw [row32_len (by omega)]; omega)] at hce
              generalize (row32 (keyB S k))[k]'(by rw [row32_len (by omega)]; omega) = old at hce
              obtain ⟨sh, hsh⟩ : ∃ sh, sh = 24 - 8 * c0 := ⟨_, rfl⟩
              have hsh1 : (24 : Int) - 8 * (c0 : Int) = (sh : Int) := by omega
              have hsh2 : sh ≤ 24 := by omega
              rw [← hsh] at hnew
              have HNEW := hide hnew
              have HKL := hide hkl
              clear hk hsh hnew hkl
              go_wp2_with fail
              have hkE := HKE.out
              have hkl := HKL.out
              refine ⟨⟨c0 + 1, by omega, by go_num, hR.other _ _ (show w.heap.size ≠ gO by omega), hS.other _ _ (show w.heap.size + 1 ≠ gO by omega), ?_, hnx.setCell (p := ⟨gO, k, none⟩) (show w.heap.size ≤ gO by omega) _, ?_⟩, by simp [intOf]; omega⟩
              · rw [show 4 * i0 + (c0 + 1) = k + 1 by omega, show k + 1 = 4 * i0 + c0 + 1 by omega]
                have h1 := hO.set k (.int .u8 (x / 2 ^ sh % 256))
                have h2 := row32_set (l := keyB S k) (x := x / 2 ^ sh % 256) (by omega)
                rw [hkl, ← HNEW.out] at h2
                rw [h2, hkE] at h1
                rw [← hkE] at h1 ⊢
                exact h1
              · exact ((hS.other _ _ (show w.heap.size + 1 ≠ gO by omega)).cell i0).trans ((hS.cell i0).symm.trans hSi)
            · have hce : c0 = 4 := by omega
              have HCE := hide hce
              clear hce
              go_wp2
              go_roundw
              case rel =>
                have e := HCE.out
                rw [e] at hO
                exact ⟨i0 + 1, by omega, by go_num, hR, hS, hO, hnx⟩
              case measure => simp [intOf]; omega
        · have hie : i0 = 8 := by omega
          rw [hie] at hO
          have hF : row32 (keyB S (4 * 8)) = (keyB S 32).map (Value.int .u8) := by
            unfold row32
            rw [keyB_len]
            simp
          rw [hF] at hO
          have hi48 : (Tryz.prog.info? 32).map (·.size) = some ((keyB S 32).map (Value.int .u8)).length := by rw [List.length_map, keyB_len]; kernel_rfl
          have hl48 : (row32 []).length = ((keyB S 32).map (Value.int .u8)).length := by rw [List.length_map, keyB_len]; rfl
          have hone48 := u8_one (keyB S 32)
          generalize (keyB S 32).map (Value.int .u8) = KV at *
          clear hie hF
          go_wp2_with (first
            | refine wpList_loadArr rfl (.tmp 7) 32 rfl rfl hO Tryz.underlying32 hi48 ?_
            | (refine wpList_storeArr2 (cs' := KV) rfl (.tmp 2) (.tmp 47) 32 rfl rfl rfl hR hi48 hl48 hone48 ?_; intro w8 hR8 hw8))
          exact bodyPost_ret (v := .agg KV.toArray) (results_arr rfl rfl hR8 Tryz.underlying32 hi48) rfl ⟨by rw [HKEY.out], hw8.below _ _ hnx (Nat.le_refl _)⟩
end Go.Proofs.YtfhfobikbfbajaaGreatDoor

namespace Go.Proofs.YtfhfobikbfbajaaGreatDoor
open Go.RowKit Go.Maps

theorem shaOf_lenP (xs : List Int) : (shaOf xs).length = 32 := by rw [shaOf, keyB_len]
def zKy : List Value := List.replicate 32 (.int .u8 0)
theorem infoKyz : (Tryz.prog.info? 32).map (fun i => (i.zero, i.size, i.bytes)) = some (some (.agg zKy.toArray), 32, 32) := by kernel_rfl
theorem isTas_lit {W : World} {D : Nat} {nm : ByteArray} {bd : Int} {vi vo : Value} {ins : List ByteArray} {outs : List (ByteArray × Tm)} (hi : IsS W vi ins) (ho : IsOu W D vo outs) :
    IsTas (W.alloc (.cells (tsC nm bd vi vo).toArray 25)) D (.slice (some ⟨W.heap.size, 0, none⟩) 1 1) [⟨nm, bd, ins, outs⟩] := by
  refine ⟨_, 1, rfl, Nat.le_refl _, by decide, (fun e => by cases e), fun _ => ⟨W.heap.size, 0, rfl, fun j hj => ?_⟩⟩
  have hj0 : j = 0 := by simpa using hj
  subst hj0
  exact ⟨vi, vo, (Arr.new W (tsC nm bd vi vo) 25).rangeJ, hi.below (jalloc_below _ _), ho.below (jalloc_below _ _)⟩
theorem infoKys {cs : List Value} (h : cs.length = 32) : (Tryz.prog.info? 32).map (·.size) = some cs.length := by rw [h]; kernel_rfl
theorem results_kt {fn : Func} {p q : Tmp} {g : Nat} {tmps : Array Value} {w : World} {cs : List Value} (h : fn.results = #[.cell p 32, .tmp q]) (ha : tmps.getD p undef = .pointer (some ⟨g, 0, none⟩)) (hA : Arr w g 32 cs) (hc : cs.length = 32) :
    (results fn tmps).run Tryz.prog w = .ok (.tuple #[.agg cs.toArray, tmps.getD q undef]) w := by
  have h1 : (loadVar 32 ⟨g, 0, none⟩).run Tryz.prog w = .ok (.agg cs.toArray) w := run_loadVar_mid (P := Tryz.prog) w g 0 _ cs _ hA.rangeJ Tryz.underlying32 rfl (infoKys hc)
  have ha' : tmps[p]?.getD undef = .pointer (some ⟨g, 0, none⟩) := by simpa using ha
  simp [results, h, asAddr, ha', h1]
theorem ky_bld (W : World) : (Instr.build 32 #[]).run Tryz.prog W = .ok (.agg zKy.toArray) W := by kernel_rfl
theorem zKy_one : ∀ u ∈ zKy, u.oneCell' = true := by intro u hu; rw [(List.mem_replicate.1 hu).2]; rfl
theorem key_one (xs : List Int) : ∀ u ∈ xs.map (Value.int .u8), u.oneCell' = true := by intro u hu; obtain ⟨x, _, rfl⟩ := List.mem_map.1 hu; rfl
def fpT (t : Tsk) : ByteArray := if manO nameB ptW clB [t] = true then bs ([t].flatMap skBy) else ByteArray.empty
def fpE (t : Tsk) (ks : List (List UInt8)) : Int := if manO nameB ptW clB [t] = true then (if ks.length = t.ins.length then 0 else 150) else 127
def fpK (t : Tsk) (ks : List (List UInt8)) : List Value := if fpE t ks = 0 then (shaOf (iL (dBy (fpT t) ks))).map (Value.int .u8) else zKy
theorem fpB {w W W' : World} {g : Nat} {t : TypeId} {cs : List Value} (h : Below w.heap.size w W) (_ : Arr W g t cs) (hg : W.grownBy W' (some g)) (hb : w.heap.size ≤ g) : Below w.heap.size w W' := h.grown hg h.size (fun j hj => by injection hj with hj; omega)
theorem build_ts (nm : ByteArray) (bd : Int) (ai ao : Option Addr) (ni ci no co : Nat) (W : World) : (Instr.buildSlice 38 1 #[(0, .agg (tsC nm bd (.slice ai ni ci) (.slice ao no co)).toArray)]).run Tryz.prog W = .ok (.slice (some ⟨W.heap.size, 0, none⟩) 1 1) (W.alloc (.cells (tsC nm bd (.slice ai ni ci) (.slice ao no co)).toArray 25)) := by kernel_rfl
section
variable {ops : Array Oper} {rest : List Oper} {o : Oper} {a : Act} {Q : Exit → Act → World → Prop} {w : World}
theorem wpList_bldTs (hgd : o.guard = none) (x : Operand) (ho : o.op = .buildSlice 38 1 #[(0, x)]) {nm : ByteArray} {bd : Int} {ai ao : Option Addr} {ni ci no co : Nat} (hx : a.eval x = .agg (tsC nm bd (.slice ai ni ci) (.slice ao no co)).toArray)
    (hk : wpList Tryz.prog ops Q rest (a.put o.dst (.slice (some ⟨w.heap.size, 0, none⟩) 1 1)) (w.alloc (.cells (tsC nm bd (.slice ai ni ci) (.slice ao no co)).toArray 25))) : wpList Tryz.prog ops Q (o :: rest) a w := by
  refine wpList_plain hgd fun K hK => ?_
  unfold Oper.wp execOp
  simp only [ho, List.map_toArray, List.map_cons, List.map_nil, hx, Sem.run_bind, build_ts, Result.andThen_ok, Sem.run_pure]
  exact hK _ _ hk
theorem wpList_bldKy (hgd : o.guard = none) (ho : o.op = .build 32 #[]) (hk : wpList Tryz.prog ops Q rest (a.put o.dst (.agg zKy.toArray)) w) : wpList Tryz.prog ops Q (o :: rest) a w := by
  refine wpList_plain hgd fun K hK => ?_
  unfold Oper.wp execOp
  simp only [ho, List.map_toArray, List.map_nil, Sem.run_bind, ky_bld, Result.andThen_ok, Sem.run_pure]
  exact hK _ _ hk
end
set_option maxRecDepth 100000 in
set_option maxHeartbeats 4000000 in
theorem dFing_calls {w : World} {D : Nat} {t : Tsk} {vi vo v : Value} {ks : List (List UInt8)} (hi : IsS w vi t.ins) (ho : IsOu w D vo t.outs) (hK : IsKs w v ks) (hs : smK t) (hl : tskW t ≤ 50000000) (hn : ks.length ≤ 1000) :
    Calls Tryz.prog 18 #[.agg (tsC t.name t.budget vi vo).toArray, v] w fun e w' => e = .returned (.tuple #[.agg (fpK t ks).toArray, .int .i64 (fpE t ks)]) ∧ Below w.heap.size w w' := by
  have hT := @isTas_lit
  obtain ⟨nm, bd, ins, outs⟩ := t
  have HT := hide (fun (W : World) (hb : Below w.heap.size w W) => dText_calls (hT (W := W) (D := D) (nm := nm) (bd := bd) (hi.below hb) (ho.below hb)) (fun t' ht' => by rw [List.mem_singleton.1 ht']; exact hs) (by unfold manW; simp; have : tskW ⟨nm, bd, ins, outs⟩ ≤ 50000000 := hl; omega))
  obtain ⟨ai, ci, rfl⟩ : ∃ a c, vi = .slice a ins.length c := by obtain ⟨a, c, e, _⟩ := hi; exact ⟨a, c, e⟩
  obtain ⟨ao, co, rfl, _, _⟩ := ho.shape
  have HK := hide hK
  obtain ⟨ak, ck, rfl, hkc, hkm⟩ : ∃ a c, v = .slice a ks.length c ∧ ks.length ≤ c ∧ c ≤ 9223372036854775807 := by obtain ⟨a, c, e, h1, h2, _⟩ := hK; exact ⟨a, c, e, h1, h2⟩
  obtain ⟨ok, hok⟩ : ∃ q, q = manO nameB ptW clB [⟨nm, bd, ins, outs⟩] := ⟨_, rfl⟩
  obtain ⟨TX, hTX⟩ : ∃ q, q = fpT ⟨nm, bd, ins, outs⟩ := ⟨_, rfl⟩
  have HT2 : Hid (∀ W : World, Below w.heap.size w W → Calls Tryz.prog 27 #[.slice (some ⟨W.heap.size, 0, none⟩) 1 1] (W.alloc (.cells (tsC nm bd (.slice ai ins.length ci) (.slice ao outs.length co)).toArray 25)) fun e w' => e = .returned (.tuple #[.string TX, .bool ok]) ∧ Below (W.alloc (.cells (tsC nm bd (.slice ai ins.length ci) (.slice ao outs.length co)).toArray 25)).heap.size (W.alloc (.cells (tsC nm bd (.slice ai ins.length ci) (.slice ao outs.length co)).toArray 25)) w') := hide (fun W hb => (HT.out W hb).mono fun e w' ⟨e1, e2⟩ => ⟨by rw [e1, hTX, hok]; rfl, e2⟩)
  have hE : fpE ⟨nm, bd, ins, outs⟩ ks = if ok = true then (if ks.length = ins.length then 0 else 150) else 127 := by unfold fpE; rw [hok]
  have hKK : fpK ⟨nm, bd, ins, outs⟩ ks = if fpE ⟨nm, bd, ins, outs⟩ ks = 0 then (shaOf (iL (dBy TX ks))).map (Value.int .u8) else zKy := by unfold fpK; rw [hTX]
  obtain ⟨E0, hE0⟩ : ∃ q, q = fpE ⟨nm, bd, ins, outs⟩ ks := ⟨_, rfl⟩
  obtain ⟨K0, hK0⟩ : ∃ q, q = fpK ⟨nm, bd, ins, outs⟩ ks := ⟨_, rfl⟩
  show Calls _ _ _ _ fun e w' => e = .returned (.tuple #[.agg (fpK ⟨nm, bd, ins, outs⟩ ks).toArray, .int .i64 (fpE ⟨nm, bd, ins, outs⟩ ks)]) ∧ _
  rw [← hE0] at hE hKK ⊢
  rw [← hK0] at hKK ⊢
  have HTS : Hid (TX.size ≤ 100000000) := hide (by
    rw [hTX]
    unfold fpT
    by_cases hm : manO nameB ptW clB [⟨nm, bd, ins, outs⟩] = true
    · rw [if_pos hm]
      have hm2 := hm
      simp only [manO, Bool.and_eq_true] at hm2
      have h1 := tsO_ok hm2.2 ⟨nm, bd, ins, outs⟩ (by simp)
      have h2 := skBy_len (t := ⟨nm, bd, ins, outs⟩) (by have := h1.1.1; omega) (by have := h1.1.2.1; omega) h1.2
      have h3 : tskW ⟨nm, bd, ins, outs⟩ ≤ 50000000 := hl
      have e : [(⟨nm, bd, ins, outs⟩ : Tsk)].flatMap skBy = skBy ⟨nm, bd, ins, outs⟩ := by simp
      rw [e]
      show (bs (skBy _)).size ≤ _
      rw [← byL_len]
      have e2 : byL (bs (skBy ⟨nm, bd, ins, outs⟩)) = skBy ⟨nm, bd, ins, outs⟩ := by simp [byL, bs]
      rw [e2]
      omega
    · rw [if_neg hm]
      decide)
  have HNK := hide hn
  have HDL : Hid ((dBy TX ks).length ≤ 200000000) := hide (by
    obtain ⟨_, _, _, _, _, _, _, h32⟩ := HK.out
    have h1 := kB_len ks h32
    have h2 := uvF_len 9 TX.size
    have h3 := HTS.out
    unfold dBy
    rw [List.length_append, List.length_append, h1, byL_len]
    unfold uvL
    omega)
  have HE := hide hE
  have HKK := hide hKK
  clear HT hT hi ho hK hs hok hTX hE hKK hE0 hK0
  go_enter Tryz.func18, Tryz.ntmps18
  go_wp2_with (first
    | (refine wpList_boxJ rfl 25 (.tmp 0) rfl (cs := tsC nm bd (.slice ai ins.length ci) (.slice ao outs.length co)) rfl ?_; intro w2 hA2 hb2 hs2; have HA2 := hide hA2; have HB2 := hide hb2; have hr2 := hA2.rangeJ; clear hA2 hb2 hs2)
    | (refine wpList_allocJ rfl 32 rfl infoKyz ?_; have HA3 := hide (Arr.new w2 zKy 32); have HB3 := hide (below_then HB2.out (jalloc_below w2 (.cells zKy.toArray 32))); have hr3 := rangeAt_below hr2 (jalloc_below w2 (.cells zKy.toArray 32)); clear hr2)
    | (refine wpList_bldTs rfl (.tmp 9) rfl rfl ?_)
    | (refine wpList_loadJ rfl 25 (.tmp 2) rfl w.heap.size 0 rfl (tsC nm bd (.slice ai ins.length ci) (.slice ao outs.length co)) _ hr3 Tryz.underlying25 rfl (infoTss _ _ _ _) ?_)
    | fail)
  have HTC := hide (HT2.out (w2.alloc (.cells zKy.toArray 32)) HB3.out)
  rw [show (w2.alloc (.cells zKy.toArray 32)).heap.size = w2.heap.size + 1 by simp] at HTC
  have HTC2 : Hid (Calls Tryz.prog 27 #[.slice (some ⟨w2.heap.size + 1, 0, none⟩) 1 1] ((w2.alloc (.cells zKy.toArray 32)).alloc (.cells (tsC nm bd (.slice ai ins.length ci) (.slice ao outs.length co)).toArray 25)) fun e w' => e = .returned (.tuple #[.string TX, .bool ok]) ∧ (Below w.heap.size w w' ∧ Arr w' w2.heap.size 32 zKy ∧ Arr w' w.heap.size 25 (tsC nm bd (.slice ai ins.length ci) (.slice ao outs.length co)))) := hide ((unhide HTC).mono fun e w' ⟨e1, e2⟩ => by
    have hb := below_then (jalloc_below w2 (.cells zKy.toArray 32)) (jalloc_below _ (.cells (tsC nm bd (.slice ai ins.length ci) (.slice ao outs.length co)).toArray 25))
    exact ⟨e1, (HB3.out.trans ((jalloc_below _ _).mono HB3.out.size)).trans (e2.mono (by have := HB3.out.size; simp at this ⊢; omega)), (HA3.out.below (jalloc_below _ _)).below e2, (HA2.out.below hb).below e2⟩)
  clear HTC
  refine (unhide HTC2).mono ?_
  rintro e w5 ⟨rfl, hx5⟩
  have HB5 := hide hx5.1
  have HA5 := hide hx5.2.1
  have HA2b := hide hx5.2.2
  have HG5 : Hid (w.heap.size ≤ w2.heap.size) := hide HB2.out.size
  clear hx5
  cases ok with
  | false =>
    have HEV : Hid (E0 = 127) := hide (by rw [HE.out]; rfl)
    have HKV : Hid (K0 = zKy) := hide (by rw [HKK.out, HEV.out]; rfl)
    go_wp2_with (first
      | (refine wpList_bldKy rfl rfl ?_)
      | (refine wpList_storeJ rfl (.tmp 4) (.tmp 16) 32 rfl rfl rfl HA5.out (infoKys rfl) rfl zKy_one ?_; intro w6 hA6 hg6; have HA6 := hide hA6; have HB6 := hide (fpB HB5.out HA5.out hg6 HG5.out); clear hA6 hg6)
      | fail)
    refine bodyPost_ret (results_kt (p := 4) (q := 5) (g := w2.heap.size) rfl rfl HA6.out rfl) rfl ?_
    exact ⟨by rw [HKV.out, HEV.out]; rfl, HB6.out⟩
  | true =>
    have c2 := (tsC_arr HA2b.out).2.2.1
    by_cases hq : ks.length = ins.length
    · have hqi : (ks.length : Int) = (ins.length : Int) := by omega
      have HEV : Hid (E0 = 0) := hide (by rw [HE.out, if_pos hq]; rfl)
      have HKV : Hid (K0 = (shaOf (iL (dBy TX ks))).map (Value.int .u8)) := hide (by rw [HKK.out, HEV.out]; rfl)
      have HBY := hide (dBytes_calls HK.out HB5.out (s := TX) HTS.out HNK.out)
      clear hq
      go_wp2_with fail
      refine (unhide HBY).mono ?_
      rintro e w6 ⟨v6, rfl, ho6, hb6⟩
      have HSM := hide (rsum_calls ho6.isB (by rw [iL_len]; have := HDL.out; omega))
      have HB6 := hide (HB5.out.trans (hb6.mono HB5.out.size))
      have HA6 := hide (HA5.out.below hb6)
      obtain ⟨a6, n6, c6, hv6⟩ := ho6.shape
      subst hv6
      clear ho6 hb6
      go_wp2_with fail
      refine (unhide HSM).mono ?_
      rintro e w7 ⟨rfl, hb7⟩
      have HB5 := hide (HB6.out.trans (hb7.mono HB6.out.size))
      have HA5 := hide (HA6.out.below hb7)
      have hkv : keyV (iL (dBy TX ks)) = .agg ((shaOf (iL (dBy TX ks))).map (Value.int .u8)).toArray := rfl
      rw [hkv]
      clear HB6 HA6 hb7 hkv
      go_wp2_with (first
        | (refine wpList_storeJ rfl (.tmp 4) (.tmp 27) 32 rfl rfl rfl HA5.out (infoKys (by rw [List.length_map]; exact shaOf_lenP _)) rfl (key_one _) ?_; intro w6 hA6 hg6; have HA6 := hide hA6; have HB6 := hide (fpB HB5.out HA5.out hg6 HG5.out); clear hA6 hg6)
        | fail)
      refine bodyPost_ret (results_kt (p := 4) (q := 5) (g := w2.heap.size) rfl rfl HA6.out (by rw [List.length_map]; exact shaOf_lenP _)) rfl ?_
      exact ⟨by rw [HKV.out, HEV.out]; rfl, HB6.out⟩
    · have hqi : ¬ (ks.length : Int) = (ins.length : Int) := by omega
      have hqd : decide ((ks.length : Int) = (ins.length : Int)) = false := decide_eq_false hqi
      have HEV : Hid (E0 = 150) := hide (by rw [HE.out, if_neg hq]; rfl)
      have HKV : Hid (K0 = zKy) := hide (by rw [HKK.out, HEV.out]; rfl)
      clear hq
      go_wp2_with (first
        | (refine wpList_bldKy rfl rfl ?_)
        | (refine wpList_storeJ rfl (.tmp 4) (.tmp 23) 32 rfl rfl rfl HA5.out (infoKys rfl) rfl zKy_one ?_; intro w6 hA6 hg6; have HA6 := hide hA6; have HB6 := hide (fpB HB5.out HA5.out hg6 HG5.out); clear hA6 hg6)
        | fail)
      refine bodyPost_ret (results_kt (p := 4) (q := 5) (g := w2.heap.size) rfl rfl HA6.out rfl) rfl ?_
      exact ⟨by rw [HKV.out, HEV.out]; rfl, HB6.out⟩
end Go.Proofs.YtfhfobikbfbajaaGreatDoor
