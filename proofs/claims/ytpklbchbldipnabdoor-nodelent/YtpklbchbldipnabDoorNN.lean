/- Words of 32 bits, turned: both sides. A block's sixteen words, and those that follow from them. -/
import Derived.Test.YtpklbchbldipnabDoorNA
import Derived.Test.YtpklbchbldipnabDoorProg
import Derived.WalkKit
import Derived.WalkSpells
import Derived.BigRegion
import Derived.Deep.RegionHeld3
namespace Go.Proofs.YtpklbchbldipnabDoor
open Go.RowKit

/-- x turned to the right by n bits. -/
def rot (x : Int) (n : Nat) : Int := bits .or .u32 (x / 2 ^ n) (x * 2 ^ (32 - n) % 4294967296)
def sig0 (x : Int) : Int := bits .xor .u32 (bits .xor .u32 (rot x 7) (rot x 18)) (x / 8)
def sig1 (x : Int) : Int := bits .xor .u32 (bits .xor .u32 (rot x 17) (rot x 19)) (x / 1024)
def Sig0 (x : Int) : Int := bits .xor .u32 (bits .xor .u32 (rot x 2) (rot x 13)) (rot x 22)
def Sig1 (x : Int) : Int := bits .xor .u32 (bits .xor .u32 (rot x 6) (rot x 11)) (rot x 25)
theorem bits_u32 (op : BinOp) (x y : Int) : 0 ≤ bits op .u32 x y ∧ bits op .u32 x y < 4294967296 := by
  unfold bits
  rw [IntKind.wrap_u32']
  omega
theorem or_swap {x y : Int} (hx : 0 ≤ x) (hx1 : x < 4294967296) (hy : 0 ≤ y) (hy1 : y < 4294967296) : bits .or .u32 x y = bits .or .u32 y x := by
  rw [u32_or x y hx hx1 hy hy1, u32_or y x hy hy1 hx hx1, Nat.or_comm]
theorem shift_of {n : Nat} (hn : 1 ≤ n) (hn1 : n ≤ 31) : bits .and .u64 (IntKind.u64.wrap (-(n : Int))) 31 = ((32 - n : Nat) : Int) := by
  have e : IntKind.u64.wrap (-(n : Int)) = ((18446744073709551616 - n : Nat) : Int) := by rw [IntKind.wrap_u64]; omega
  rw [e, show (31 : Int) = ((31 : Nat) : Int) from rfl, u64_and_nat _ 31 (by omega) (by decide), nat_mask5]
  omega
theorem div_u32 {x : Int} {n : Nat} (h0 : 0 ≤ x) (h1 : x < 4294967296) : 0 ≤ x / 2 ^ n ∧ x / 2 ^ n < 4294967296 := by
  have hp : (0 : Int) < 2 ^ n := Int.pow_pos (by decide)
  exact ⟨Int.ediv_nonneg h0 (by omega), Int.lt_of_le_of_lt (Int.ediv_le_self _ h0) h1⟩

theorem rotl_calls (x : Int) (n : Nat) (h0 : 0 ≤ x) (h1 : x < 4294967296) (hn : 1 ≤ n) (hn1 : n ≤ 31) (w : World) : Calls Tryd.prog 89 #[.int .u32 x, .int .i64 (-(n : Int))] w fun e w' => e = .returned (.int .u32 (rot x n)) ∧ w' = w := by
  have hs := shift_of hn hn1
  obtain ⟨m, hm⟩ : ∃ m, m = 32 - n := ⟨_, rfl⟩
  rw [← hm] at hs
  have hm1 : 1 ≤ m := by omega
  have hm2 : m ≤ 31 := by omega
  have HM := hide hm
  clear hm hn hn1
  go_enter Tryd.func89, Tryd.ntmps89
  go_wp2
  go_ret
  refine ⟨?_, rfl⟩
  have h2 := div_u32 (n := 32 - m) h0 h1
  have e := HM.out
  have e2 : 32 - m = n := by omega
  show Ending.returned (.int .u32 (bits .or .u32 (x * 2 ^ m % 4294967296) (x / 2 ^ (32 - m)))) = _
  rw [or_swap (by omega) (by omega) h2.1 h2.2, rot, e2, ← e]
theorem rrotr_calls (x : Int) (n : Nat) (hn : 1 ≤ n) (hn1 : n ≤ 31) (w : World) : Calls Tryd.prog 68 #[.int .u32 x, .int .u64 (n : Int)] w fun e w' => e = .returned (.int .u32 (rot x n)) ∧ w' = w := by
  go_enter Tryd.func68, Tryd.ntmps68
  go_wp2
  go_ret
  exact ⟨rfl, rfl⟩
theorem right_calls (x : Int) (n : Nat) (h0 : 0 ≤ x) (h1 : x < 4294967296) (hn : 1 ≤ n) (hn1 : n ≤ 31) (w : World) : Calls Tryd.prog 86 #[.int .u32 x, .int .i64 (n : Int)] w fun e w' => e = .returned (.int .u32 (rot x n)) ∧ w' = w := by
  go_enter Tryd.func86, Tryd.ntmps86
  go_wp2_with (go_at_call 89; refine (rotl_calls x n h0 h1 hn hn1 _).mono ?_; rintro e w1 ⟨rfl, hw1⟩; obtain rfl := hw1.symm)
  go_ret
  exact ⟨rfl, rfl⟩
theorem turnedE_calls (x : Int) (h0 : 0 ≤ x) (h1 : x < 4294967296) (w : World) : Calls Tryd.prog 77 #[.int .u32 x] w fun e w' => e = .returned (.int .u32 (Sig1 x)) ∧ w' = w := by
  have r6 : ∀ w', Calls Tryd.prog 86 #[.int .u32 x, .int .i64 6] w' fun e w2 => e = .returned (.int .u32 (rot x 6)) ∧ w2 = w' := fun w' => right_calls x 6 h0 h1 (by decide) (by decide) w'
  have r11 : ∀ w', Calls Tryd.prog 86 #[.int .u32 x, .int .i64 11] w' fun e w2 => e = .returned (.int .u32 (rot x 11)) ∧ w2 = w' := fun w' => right_calls x 11 h0 h1 (by decide) (by decide) w'
  have r25 : ∀ w', Calls Tryd.prog 86 #[.int .u32 x, .int .i64 25] w' fun e w2 => e = .returned (.int .u32 (rot x 25)) ∧ w2 = w' := fun w' => right_calls x 25 h0 h1 (by decide) (by decide) w'
  go_enter Tryd.func77, Tryd.ntmps77
  go_wp2_with (go_at_call 86; (first | with_reducible refine (r6 _).mono ?_ | with_reducible refine (r11 _).mono ?_ | with_reducible refine (r25 _).mono ?_); rintro e w1 ⟨rfl, hw1⟩; obtain rfl := hw1.symm)
  go_ret
  exact ⟨rfl, rfl⟩
theorem turnedA_calls (x : Int) (h0 : 0 ≤ x) (h1 : x < 4294967296) (w : World) : Calls Tryd.prog 78 #[.int .u32 x] w fun e w' => e = .returned (.int .u32 (Sig0 x)) ∧ w' = w := by
  have r2 : ∀ w', Calls Tryd.prog 86 #[.int .u32 x, .int .i64 2] w' fun e w2 => e = .returned (.int .u32 (rot x 2)) ∧ w2 = w' := fun w' => right_calls x 2 h0 h1 (by decide) (by decide) w'
  have r13 : ∀ w', Calls Tryd.prog 86 #[.int .u32 x, .int .i64 13] w' fun e w2 => e = .returned (.int .u32 (rot x 13)) ∧ w2 = w' := fun w' => right_calls x 13 h0 h1 (by decide) (by decide) w'
  have r22 : ∀ w', Calls Tryd.prog 86 #[.int .u32 x, .int .i64 22] w' fun e w2 => e = .returned (.int .u32 (rot x 22)) ∧ w2 = w' := fun w' => right_calls x 22 h0 h1 (by decide) (by decide) w'
  go_enter Tryd.func78, Tryd.ntmps78
  go_wp2_with (go_at_call 86; (first | with_reducible refine (r2 _).mono ?_ | with_reducible refine (r13 _).mono ?_ | with_reducible refine (r22 _).mono ?_); rintro e w1 ⟨rfl, hw1⟩; obtain rfl := hw1.symm)
  go_ret
  exact ⟨rfl, rfl⟩
theorem mixedOld_calls (x : Int) (h0 : 0 ≤ x) (h1 : x < 4294967296) (w : World) : Calls Tryd.prog 85 #[.int .u32 x] w fun e w' => e = .returned (.int .u32 (sig0 x)) ∧ w' = w := by
  have r7 : ∀ w', Calls Tryd.prog 86 #[.int .u32 x, .int .i64 7] w' fun e w2 => e = .returned (.int .u32 (rot x 7)) ∧ w2 = w' := fun w' => right_calls x 7 h0 h1 (by decide) (by decide) w'
  have r18 : ∀ w', Calls Tryd.prog 86 #[.int .u32 x, .int .i64 18] w' fun e w2 => e = .returned (.int .u32 (rot x 18)) ∧ w2 = w' := fun w' => right_calls x 18 h0 h1 (by decide) (by decide) w'
  go_enter Tryd.func85, Tryd.ntmps85
  go_wp2_with (go_at_call 86; (first | with_reducible refine (r7 _).mono ?_ | with_reducible refine (r18 _).mono ?_); rintro e w1 ⟨rfl, hw1⟩; obtain rfl := hw1.symm)
  go_ret
  exact ⟨rfl, rfl⟩
theorem mixedNew_calls (x : Int) (h0 : 0 ≤ x) (h1 : x < 4294967296) (w : World) : Calls Tryd.prog 84 #[.int .u32 x] w fun e w' => e = .returned (.int .u32 (sig1 x)) ∧ w' = w := by
  have r17 : ∀ w', Calls Tryd.prog 86 #[.int .u32 x, .int .i64 17] w' fun e w2 => e = .returned (.int .u32 (rot x 17)) ∧ w2 = w' := fun w' => right_calls x 17 h0 h1 (by decide) (by decide) w'
  have r19 : ∀ w', Calls Tryd.prog 86 #[.int .u32 x, .int .i64 19] w' fun e w2 => e = .returned (.int .u32 (rot x 19)) ∧ w2 = w' := fun w' => right_calls x 19 h0 h1 (by decide) (by decide) w'
  go_enter Tryd.func84, Tryd.ntmps84
  go_wp2_with (go_at_call 86; (first | with_reducible refine (r17 _).mono ?_ | with_reducible refine (r19 _).mono ?_); rintro e w1 ⟨rfl, hw1⟩; obtain rfl := hw1.symm)
  go_ret
  exact ⟨rfl, rfl⟩
end Go.Proofs.YtpklbchbldipnabDoor

namespace Go.Proofs.YtpklbchbldipnabDoor
open Go.RowKit

def word4 (bs : List Int) (t : Nat) : Int := bits .or .u32 (bits .or .u32 (bits .or .u32 (bs.getD (4 * t) 0 * 16777216) (bs.getD (4 * t + 1) 0 * 65536)) (bs.getD (4 * t + 2) 0 * 256)) (bs.getD (4 * t + 3) 0)
def nextW (bs l : List Int) (t : Nat) : Int := if t < 16 then word4 bs t else (((sig1 (l.getD (t - 2) 0) + l.getD (t - 7) 0) % 4294967296 + sig0 (l.getD (t - 15) 0)) % 4294967296 + l.getD (t - 16) 0) % 4294967296
def sched (bs : List Int) : Nat → List Int
  | 0 => []
  | n + 1 => sched bs n ++ [nextW bs (sched bs n) n]
theorem nextW_bd (bs l : List Int) (t : Nat) : 0 ≤ nextW bs l t ∧ nextW bs l t < 4294967296 := by
  unfold nextW
  split
  · exact bits_u32 _ _ _
  · omega
theorem sched_bd (bs : List Int) (n j : Nat) : 0 ≤ (sched bs n).getD j 0 ∧ (sched bs n).getD j 0 < 4294967296 := by
  induction n with
  | zero => simp [sched]
  | succ n ih =>
    simp only [sched, List.getD_eq_getElem?_getD] at *
    by_cases hj : j < (sched bs n).length
    · rw [List.getElem?_append_left hj]; exact ih
    · rw [List.getElem?_append_right (by omega)]
      by_cases h0 : j - (sched bs n).length = 0
      · rw [h0]; simpa using nextW_bd bs (sched bs n) n
      · rw [List.getElem?_eq_none (by simp; omega)]; simp
def row64 (l : List Int) : List Value := (l ++ List.replicate (64 - l.length) 0).map (Value.int .u32)
theorem sched_len (bs : List Int) (n : Nat) : (sched bs n).length = n := by
  induction n with
  | zero => rfl
  | succ n ih => simp [sched, ih]
theorem row64_set {l : List Int} {x : Int} (h : l.length < 64) : (row64 l).set l.length (.int .u32 x) = row64 (l ++ [x]) := by
  unfold row64
  have e : 64 - l.length = (64 - (l ++ [x]).length) + 1 := by simp; omega
  rw [e, List.replicate_succ, List.map_append, List.map_append, List.map_append, List.set_append_right _ _ (by simp)]
  simp
theorem row64_at {l : List Int} {j : Nat} (h : j < l.length) : (row64 l)[j]? = some (.int .u32 (l.getD j 0)) := by
  unfold row64
  rw [List.getElem?_map, List.getElem?_append_left h, List.getElem?_eq_getElem h, List.getD_eq_getElem?_getD, List.getElem?_eq_getElem h]
  rfl
theorem row64_len {l : List Int} (h : l.length ≤ 64) : (row64 l).length = 64 := by
  simp [row64]; omega

set_option maxRecDepth 100000 in
set_option maxHeartbeats 1000000 in
theorem spread_in (b off cap : Nat) (bs : List Int) (w : World) (hc : 64 ≤ cap) (hm : cap ≤ 9223372036854775807) (hby : ∀ j : Nat, 0 ≤ bs.getD j 0 ∧ bs.getD j 0 ≤ 255)
    (hcell : ∀ j, j < 64 → w.cell? ⟨b, off + j, none⟩ = some (.int .u8 (bs.getD j 0))) :
    Calls Tryd.prog 76 #[.slice (some ⟨b, off, none⟩) 64 cap] w fun e w' => e = .returned (.agg ((sched bs 64).map (Value.int .u32)).toArray) ∧ Below w.heap.size w w' := by
  have HC := hide hcell
  have HBY := hide hby
  clear hcell hby
  go_enter Tryd.func76, Tryd.ntmps76
  go_wp2_with fail
  have hA0 := Arr.new w (row64 []) 93
  have hb0 : Below w.heap.size w (w.alloc (.cells (row64 []).toArray 93)) := (Below.refl _ _).alloc (Nat.le_refl _) _
  have hA1 := Arr.new (w.alloc (.cells (row64 []).toArray 93)) (row64 []) 93
  have hA0' := hA0.alloc (.cells (row64 []).toArray 93)
  have hb1 := hb0.alloc hb0.size (.cells (row64 []).toArray 93)
  have hsz : (w.alloc (.cells (row64 []).toArray 93)).heap.size = w.heap.size + 1 := by simp
  rw [hsz] at hA1
  clear hsz
  go_loopw [7] (fun i wr => ∃ k : Nat, k ≤ 16 ∧ i = .int .i64 (k : Int) ∧ Arr wr w.heap.size 93 (row64 []) ∧ Arr wr (w.heap.size + 1) 93 (row64 (sched bs k)) ∧ Below w.heap.size w wr) (fun i _ => 16 - (intOf i).toNat)
  case atStart => exact ⟨0, by omega, rfl, hA0', hA1, hb1⟩
  case round =>
    clear hA0 hA0' hA1 hb0 hb1
    obtain ⟨k, hk, rfl, hR, hW, hnx⟩ := hrel
    by_cases hk16 : k < 16
    · have hcs : ∀ j, j < 4 → wr.cell? ⟨b, off + (4 * k + j), none⟩ = some (.int .u8 (bs.getD (4 * k + j) 0)) := fun j hj => by
        have h := unhide HC (4 * k + j) (by omega)
        exact (hnx.cell (World.block_lt_of_cell? _ _ h)).trans h
      have h0 := hcs 0 (by omega)
      have h1 := hcs 1 (by omega)
      have h2 := hcs 2 (by omega)
      have h3 := hcs 3 (by omega)
      have b0 := unhide HBY (4 * k)
      have b1 := unhide HBY (4 * k + 1)
      have b2 := unhide HBY (4 * k + 2)
      have b3 := unhide HBY (4 * k + 3)
      simp only [Nat.add_zero, ← Nat.add_assoc] at h0 h1 h2 h3
      have HNX : Hid (sched bs (k + 1) = sched bs k ++ [bits .or .u32 (bits .or .u32 (bits .or .u32 (bs.getD (4 * k) 0 * 16777216) (bs.getD (4 * k + 1) 0 * 65536)) (bs.getD (4 * k + 2) 0 * 256)) (bs.getD (4 * k + 3) 0)]) := by
        show _ = _
        rw [sched, nextW, if_pos hk16]
        rfl
      generalize bs.getD (4 * k) 0 = x0 at *
      generalize bs.getD (4 * k + 1) 0 = x1 at *
      generalize bs.getD (4 * k + 2) 0 = x2 at *
      generalize bs.getD (4 * k + 3) 0 = x3 at *
      clear hcs
      have hfr := hW.frozen k
      have hce := hW.cell k
      have hln := sched_len bs k
      rw [List.getElem?_eq_getElem (by rw [row64_len (by omega)]; omega)] at hce
      generalize (row64 (sched bs k))[k]'(by rw [row64_len (by omega)]; omega) = old at hce
      have HLN := hide hln
      clear hln
      go_wp2_with fail
      go_region
      go_wp2
      go_roundw
      case rel =>
        have hln := HLN.out
        refine ⟨k + 1, by omega, by go_num, (hR.other _ _ (by simp)).drew, ?_, (hnx.setCell (by simp) _).drew⟩
        rw [HNX.out, ← row64_set (by omega), hln]
        exact (hW.set k _).drew
      case measure => simp [intOf]; omega
    · have hke : k = 16 := by omega
      have HKE := hide hke
      clear hke
      go_wp2_with fail
      go_loopw [6] (fun i wr => ∃ k : Nat, 16 ≤ k ∧ k ≤ 64 ∧ i = .int .i64 (k : Int) ∧ Arr wr w.heap.size 93 (row64 []) ∧ Arr wr (w.heap.size + 1) 93 (row64 (sched bs k)) ∧ Below w.heap.size w wr) (fun i _ => 64 - (intOf i).toNat)
      case atStart => exact ⟨16, by omega, by omega, rfl, hR, by rw [← HKE.out]; exact hW, hnx⟩
      case round =>
        clear hR hW hnx hk hk16
        obtain ⟨k, hk16, hk, rfl, hR, hW, hnx⟩ := hrel
        by_cases hk64 : k < 64
        · have hln := sched_len bs k
          have h2 := hW.cell (k - 2)
          have h7 := hW.cell (k - 7)
          have h15 := hW.cell (k - 15)
          have h16 := hW.cell (k - 16)
          rw [row64_at (by omega)] at h2 h7 h15 h16
          have b2 := sched_bd bs k (k - 2)
          have b7 := sched_bd bs k (k - 7)
          have b15 := sched_bd bs k (k - 15)
          have b16 := sched_bd bs k (k - 16)
          have HNX : Hid (sched bs (k + 1) = sched bs k ++ [(((sig1 ((sched bs k).getD (k - 2) 0) + (sched bs k).getD (k - 7) 0) % 4294967296 + sig0 ((sched bs k).getD (k - 15) 0)) % 4294967296 + (sched bs k).getD (k - 16) 0) % 4294967296]) := by
            show _ = _
            rw [sched, nextW, if_neg (by omega)]
          generalize (sched bs k).getD (k - 2) 0 = x2 at *
          generalize (sched bs k).getD (k - 7) 0 = x7 at *
          generalize (sched bs k).getD (k - 15) 0 = x15 at *
          generalize (sched bs k).getD (k - 16) 0 = x16 at *
          have hfr := hW.frozen k
          have hce := hW.cell k
          rw [List.getElem?_eq_getElem (by rw [row64_len (by omega)]; omega)] at hce
          generalize (row64 (sched bs k))[k]'(by rw [row64_len (by omega)]; omega) = old at hce
          have HLN := hide hln
          clear hln
          obtain ⟨m2, hm2⟩ : ∃ m, m = k - 2 := ⟨_, rfl⟩
          rw [← hm2] at h2
          have e2 : (k : Int) - 2 = (m2 : Int) := by omega
          have q2 : IntKind.i64.wrap (m2 : Int) = (m2 : Int) := IntWalk.i64_in _ (by omega)
          have f2 : (m2 : Int) < 64 := by omega
          have g2 : (0 : Int) ≤ (m2 : Int) := by omega
          obtain ⟨m7, hm7⟩ : ∃ m, m = k - 7 := ⟨_, rfl⟩
          rw [← hm7] at h7
          have e7 : (k : Int) - 7 = (m7 : Int) := by omega
          have q7 : IntKind.i64.wrap (m7 : Int) = (m7 : Int) := IntWalk.i64_in _ (by omega)
          have f7 : (m7 : Int) < 64 := by omega
          have g7 : (0 : Int) ≤ (m7 : Int) := by omega
          obtain ⟨m15, hm15⟩ : ∃ m, m = k - 15 := ⟨_, rfl⟩
          rw [← hm15] at h15
          have e15 : (k : Int) - 15 = (m15 : Int) := by omega
          have q15 : IntKind.i64.wrap (m15 : Int) = (m15 : Int) := IntWalk.i64_in _ (by omega)
          have f15 : (m15 : Int) < 64 := by omega
          have g15 : (0 : Int) ≤ (m15 : Int) := by omega
          obtain ⟨m16, hm16⟩ : ∃ m, m = k - 16 := ⟨_, rfl⟩
          rw [← hm16] at h16
          have e16 : (k : Int) - 16 = (m16 : Int) := by omega
          have q16 : IntKind.i64.wrap (m16 : Int) = (m16 : Int) := IntWalk.i64_in _ (by omega)
          have f16 : (m16 : Int) < 64 := by omega
          have g16 : (0 : Int) ≤ (m16 : Int) := by omega
          have HK : Hid (m2 < k ∧ m7 < k ∧ m15 < k ∧ m16 < k) := by
            show _ ∧ _ ∧ _ ∧ _
            omega
          have fk : (k : Int) < 64 := by omega
          have gk : (0 : Int) ≤ (k : Int) := by omega
          clear hm2 hm7 hm15 hm16
          go_wp2_with fail
          have hS : ∀ W : World, W.heap = wr.heap → (W.cell? ⟨w.heap.size + 1, m2, none⟩ = some (.int .u32 x2) ∧ W.cell? ⟨w.heap.size + 1, m7, none⟩ = some (.int .u32 x7) ∧ W.cell? ⟨w.heap.size + 1, m15, none⟩ = some (.int .u32 x15) ∧ W.cell? ⟨w.heap.size + 1, m16, none⟩ = some (.int .u32 x16)) := fun W hW' => by
            have e : ∀ a, W.cell? a = wr.cell? a := fun a => by unfold World.cell?; rw [hW']
            rw [e, e, e, e]
            exact ⟨h2, h7, h15, h16⟩
          have hS2 : ∀ (W : World) (u : Value), W.heap = wr.heap → ((W.setCell ⟨w.heap.size + 1, k, none⟩ u).cell? ⟨w.heap.size + 1, m2, none⟩ = some (.int .u32 x2) ∧ (W.setCell ⟨w.heap.size + 1, k, none⟩ u).cell? ⟨w.heap.size + 1, m7, none⟩ = some (.int .u32 x7) ∧ (W.setCell ⟨w.heap.size + 1, k, none⟩ u).cell? ⟨w.heap.size + 1, m15, none⟩ = some (.int .u32 x15) ∧ (W.setCell ⟨w.heap.size + 1, k, none⟩ u).cell? ⟨w.heap.size + 1, m16, none⟩ = some (.int .u32 x16)) := fun W u hW' => by
            have hA : Arr W (w.heap.size + 1) 93 (row64 (sched bs k)) := hW.keep (by rw [hW'])
            have hA2 := hA.set k u
            have hK := HK.out
            rw [hW.cell] at h2 h7 h15 h16
            rw [hA2.cell, hA2.cell, hA2.cell, hA2.cell, List.getElem?_set_ne (by omega), List.getElem?_set_ne (by omega), List.getElem?_set_ne (by omega), List.getElem?_set_ne (by omega)]
            exact ⟨h2, h7, h15, h16⟩
          have HS := hide hS
          have HS2 := hide hS2
          clear hS hS2
          go_region_held3 (fun W => W.cell? ⟨w.heap.size + 1, m2, none⟩ = some (.int .u32 x2) ∧ W.cell? ⟨w.heap.size + 1, m7, none⟩ = some (.int .u32 x7) ∧ W.cell? ⟨w.heap.size + 1, m15, none⟩ = some (.int .u32 x15) ∧ W.cell? ⟨w.heap.size + 1, m16, none⟩ = some (.int .u32 x16))
            (first | exact unhide HS _ rfl | exact unhide HS2 _ _ rfl)
            (first
            | (go_at_call 84; refine (mixedNew_calls x2 b2.1 b2.2 _).mono ?_; rintro e w1 ⟨rfl, hw1⟩; obtain rfl := hw1.symm)
            | (go_at_call 85; refine (mixedOld_calls x15 b15.1 b15.2 _).mono ?_; rintro e w1 ⟨rfl, hw1⟩; obtain rfl := hw1.symm))
          go_wp2
          go_roundw
          case rel =>
            have hln := HLN.out
            refine ⟨k + 1, by omega, by omega, by go_num, (hR.other _ _ (by simp)).drew, ?_, (hnx.setCell (by simp) _).drew⟩
            rw [HNX.out, ← row64_set (by omega), hln]
            exact (hW.set k _).drew
          case measure => simp [intOf]; omega
        · have hke : k = 64 := by omega
          rw [hke] at hW
          have hlen : (row64 (sched bs 64)).length = 64 := row64_len (by rw [sched_len]; omega)
          have hi79 : (Tryd.prog.info? 93).map (·.size) = some (row64 (sched bs 64)).length := by rw [hlen]; kernel_rfl
          have hlen0 : (row64 []).length = (row64 (sched bs 64)).length := by rw [hlen]; rfl
          have hone : ∀ u ∈ row64 (sched bs 64), u.oneCell' = true := fun u hu => by
            obtain ⟨x, _, rfl⟩ := List.mem_map.1 hu
            rfl
          have hR2 := hR.setRow (row64 (sched bs 64))
          have hnx2 := below_setRow hnx (Nat.le_refl _) (row64 (sched bs 64)).toArray
          have HF : Hid (row64 (sched bs 64) = (sched bs 64).map (Value.int .u32)) := by
            show _ = _
            simp [row64, sched_len]
          generalize row64 (sched bs 64) = C at *
          clear hlen
          go_wp2_with (first
            | refine wpList_loadArr rfl (.tmp 3) 93 rfl rfl hW Tryd.underlying93 hi79 ?_
            | refine wpList_storeArr rfl (.tmp 2) (.tmp 69) 93 rfl rfl rfl hR hi79 hlen0 hone ?_)
          refine bodyPost_ret (v := .agg C.toArray) (results_arr rfl rfl hR2 Tryd.underlying93 hi79) rfl ⟨by rw [HF.out], hnx2⟩
end Go.Proofs.YtpklbchbldipnabDoor
