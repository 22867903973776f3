/- Words of 32 bits, turned: both sides. A block's sixteen words, and those that follow from them. The eight words behind one more block. -/
import Derived.Test.YtlofoklfggmbiaaDoorQA
import Derived.Test.YtlofoklfggmbiaaDoorProg
import Derived.WalkKit
import Derived.WalkSpells
import Derived.Test.YtlofoklfggmbiaaDoorQC
import Derived.BigRegion
import Derived.Deep.RegionHeld3
namespace Go.Proofs.YtlofoklfggmbiaaDoor
open Go.RowKit

/-- x turned to the right by n bits. -/
def rot (x : Int) (n : Nat) : Int := bits .or .u32 (x / 2 ^ n) (x * 2 ^ (32 - n) % 4294967296)
def sig0 (x : Int) : Int := bits .xor .u32 (bits .xor .u32 (rot x 7) (rot x 18)) (x / 8)
def sig1 (x : Int) : Int := bits .xor .u32 (bits .xor .u32 (rot x 17) (rot x 19)) (x / 1024)
def Sig0 (x : Int) : Int := bits .xor .u32 (bits .xor .u32 (rot x 2) (rot x 13)) (rot x 22)
def Sig1 (x : Int) : Int := bits .xor .u32 (bits .xor .u32 (rot x 6) (rot x 11)) (rot x 25)
theorem bits_u32 (op : BinOp) (x y : Int) : 0 ≤ bits op .u32 x y ∧ bits op .u32 x y < 4294967296 := by
 unfold bits
 rw [IntKind.wrap_u32']
 omega
theorem or_swap {x y : Int} (hx : 0 ≤ x) (hx1 : x < 4294967296) (hy : 0 ≤ y) (hy1 : y < 4294967296) : bits .or .u32 x y = bits .or .u32 y x := by
 rw [u32_or x y hx hx1 hy hy1, u32_or y x hy hy1 hx hx1, Nat.or_comm]
theorem shift_of {n : Nat} (hn : 1 ≤ n) (hn1 : n ≤ 31) : bits .and .u64 (IntKind.u64.wrap (-(n : Int))) 31 = ((32 - n : Nat) : Int) := by
 have e : IntKind.u64.wrap (-(n : Int)) = ((18446744073709551616 - n : Nat) : Int) := by rw [IntKind.wrap_u64]; omega
 rw [e, show (31 : Int) = ((31 : Nat) : Int) from rfl, u64_and_nat _ 31 (by omega) (by decide), nat_mask5]
 omega
theorem div_u32 {x : Int} {n : Nat} (h0 : 0 ≤ x) (h1 : x < 4294967296) : 0 ≤ x / 2 ^ n ∧ x / 2 ^ n < 4294967296 := by
 have hp : (0 : Int) < 2 ^ n := Int.pow_pos (by decide)
 exact ⟨Int.ediv_nonneg h0 (by omega), Int.lt_of_le_of_lt (Int.ediv_le_self _ h0) h1⟩

theorem rotl_calls (x : Int) (n : Nat) (h0 : 0 ≤ x) (h1 : x < 4294967296) (hn : 1 ≤ n) (hn1 : n ≤ 31) (w : World) : Calls Tryd.prog 111 #[.int .u32 x, .int .i64 (-(n : Int))] w fun e w' => e = .returned (.int .u32 (rot x n)) ∧ w' = w := by
 have hs := shift_of hn hn1
 obtain ⟨m, hm⟩ : ∃ m, m = 32 - n := ⟨_, rfl⟩
 rw [← hm] at hs
 have hm1 : 1 ≤ m := by omega
 have hm2 : m ≤ 31 := by omega
 have HM := hide hm
 clear hm hn hn1
 go_enter Tryd.func111, Tryd.ntmps111
 go_wp2
 go_ret
 refine ⟨?_, rfl⟩
 have h2 := div_u32 (n := 32 - m) h0 h1
 have e := HM.out
 have e2 : 32 - m = n := by omega
 show Ending.returned (.int .u32 (bits .or .u32 (x * 2 ^ m % 4294967296) (x / 2 ^ (32 - m)))) = _
 rw [or_swap (by omega) (by omega) h2.1 h2.2, rot, e2, ← e]
theorem right_calls (x : Int) (n : Nat) (h0 : 0 ≤ x) (h1 : x < 4294967296) (hn : 1 ≤ n) (hn1 : n ≤ 31) (w : World) : Calls Tryd.prog 109 #[.int .u32 x, .int .i64 (n : Int)] w fun e w' => e = .returned (.int .u32 (rot x n)) ∧ w' = w := by
 go_enter Tryd.func109, Tryd.ntmps109
 go_wp2_with (go_at_call 111; refine (rotl_calls x n h0 h1 hn hn1 _).mono ?_; rintro e w1 ⟨rfl, hw1⟩; obtain rfl := hw1.symm)
 go_ret
 exact ⟨rfl, rfl⟩
theorem turnedE_calls (x : Int) (h0 : 0 ≤ x) (h1 : x < 4294967296) (w : World) : Calls Tryd.prog 99 #[.int .u32 x] w fun e w' => e = .returned (.int .u32 (Sig1 x)) ∧ w' = w := by
 have r6 : ∀ w', Calls Tryd.prog 109 #[.int .u32 x, .int .i64 6] w' fun e w2 => e = .returned (.int .u32 (rot x 6)) ∧ w2 = w' := fun w' => right_calls x 6 h0 h1 (by decide) (by decide) w'
 have r11 : ∀ w', Calls Tryd.prog 109 #[.int .u32 x, .int .i64 11] w' fun e w2 => e = .returned (.int .u32 (rot x 11)) ∧ w2 = w' := fun w' => right_calls x 11 h0 h1 (by decide) (by decide) w'
 have r25 : ∀ w', Calls Tryd.prog 109 #[.int .u32 x, .int .i64 25] w' fun e w2 => e = .returned (.int .u32 (rot x 25)) ∧ w2 = w' := fun w' => right_calls x 25 h0 h1 (by decide) (by decide) w'
 go_enter Tryd.func99, Tryd.ntmps99
 go_wp2_with (go_at_call 109; (first | with_reducible refine (r6 _).mono ?_ | with_reducible refine (r11 _).mono ?_ | with_reducible refine (r25 _).mono ?_); rintro e w1 ⟨rfl, hw1⟩; obtain rfl := hw1.symm)
 go_ret
 exact ⟨rfl, rfl⟩
theorem turnedA_calls (x : Int) (h0 : 0 ≤ x) (h1 : x < 4294967296) (w : World) : Calls Tryd.prog 100 #[.int .u32 x] w fun e w' => e = .returned (.int .u32 (Sig0 x)) ∧ w' = w := by
 have r2 : ∀ w', Calls Tryd.prog 109 #[.int .u32 x, .int .i64 2] w' fun e w2 => e = .returned (.int .u32 (rot x 2)) ∧ w2 = w' := fun w' => right_calls x 2 h0 h1 (by decide) (by decide) w'
 have r13 : ∀ w', Calls Tryd.prog 109 #[.int .u32 x, .int .i64 13] w' fun e w2 => e = .returned (.int .u32 (rot x 13)) ∧ w2 = w' := fun w' => right_calls x 13 h0 h1 (by decide) (by decide) w'
 have r22 : ∀ w', Calls Tryd.prog 109 #[.int .u32 x, .int .i64 22] w' fun e w2 => e = .returned (.int .u32 (rot x 22)) ∧ w2 = w' := fun w' => right_calls x 22 h0 h1 (by decide) (by decide) w'
 go_enter Tryd.func100, Tryd.ntmps100
 go_wp2_with (go_at_call 109; (first | with_reducible refine (r2 _).mono ?_ | with_reducible refine (r13 _).mono ?_ | with_reducible refine (r22 _).mono ?_); rintro e w1 ⟨rfl, hw1⟩; obtain rfl := hw1.symm)
 go_ret
 exact ⟨rfl, rfl⟩
theorem mixedOld_calls (x : Int) (h0 : 0 ≤ x) (h1 : x < 4294967296) (w : World) : Calls Tryd.prog 108 #[.int .u32 x] w fun e w' => e = .returned (.int .u32 (sig0 x)) ∧ w' = w := by
 have r7 : ∀ w', Calls Tryd.prog 109 #[.int .u32 x, .int .i64 7] w' fun e w2 => e = .returned (.int .u32 (rot x 7)) ∧ w2 = w' := fun w' => right_calls x 7 h0 h1 (by decide) (by decide) w'
 have r18 : ∀ w', Calls Tryd.prog 109 #[.int .u32 x, .int .i64 18] w' fun e w2 => e = .returned (.int .u32 (rot x 18)) ∧ w2 = w' := fun w' => right_calls x 18 h0 h1 (by decide) (by decide) w'
 go_enter Tryd.func108, Tryd.ntmps108
 go_wp2_with (go_at_call 109; (first | with_reducible refine (r7 _).mono ?_ | with_reducible refine (r18 _).mono ?_); rintro e w1 ⟨rfl, hw1⟩; obtain rfl := hw1.symm)
 go_ret
 exact ⟨rfl, rfl⟩
theorem mixedNew_calls (x : Int) (h0 : 0 ≤ x) (h1 : x < 4294967296) (w : World) : Calls Tryd.prog 107 #[.int .u32 x] w fun e w' => e = .returned (.int .u32 (sig1 x)) ∧ w' = w := by
 have r17 : ∀ w', Calls Tryd.prog 109 #[.int .u32 x, .int .i64 17] w' fun e w2 => e = .returned (.int .u32 (rot x 17)) ∧ w2 = w' := fun w' => right_calls x 17 h0 h1 (by decide) (by decide) w'
 have r19 : ∀ w', Calls Tryd.prog 109 #[.int .u32 x, .int .i64 19] w' fun e w2 => e = .returned (.int .u32 (rot x 19)) ∧ w2 = w' := fun w' => right_calls x 19 h0 h1 (by decide) (by decide) w'
 go_enter Tryd.func107, Tryd.ntmps107
 go_wp2_with (go_at_call 109; (first | with_reducible refine (r17 _).mono ?_ | with_reducible refine (r19 _).mono ?_); rintro e w1 ⟨rfl, hw1⟩; obtain rfl := hw1.symm)
 go_ret
 exact ⟨rfl, rfl⟩
end Go.Proofs.YtlofoklfggmbiaaDoor

namespace Go.Proofs.YtlofoklfggmbiaaDoor
open Go.RowKit

def word4 (bs : List Int) (t : Nat) : Int := bits .or .u32 (bits .or .u32 (bits .or .u32 (bs.getD (4 * t) 0 * 16777216) (bs.getD (4 * t + 1) 0 * 65536)) (bs.getD (4 * t + 2) 0 * 256)) (bs.getD (4 * t + 3) 0)
def nextW (bs l : List Int) (t : Nat) : Int := if t < 16 then word4 bs t else (((sig1 (l.getD (t - 2) 0) + l.getD (t - 7) 0) % 4294967296 + sig0 (l.getD (t - 15) 0)) % 4294967296 + l.getD (t - 16) 0) % 4294967296
def sched (bs : List Int) : Nat → List Int
 | 0 => []
 | n + 1 => sched bs n ++ [nextW bs (sched bs n) n]
theorem nextW_bd (bs l : List Int) (t : Nat) : 0 ≤ nextW bs l t ∧ nextW bs l t < 4294967296 := by
 unfold nextW
 split
 · exact bits_u32 _ _ _
 · omega
theorem sched_bd (bs : List Int) (n j : Nat) : 0 ≤ (sched bs n).getD j 0 ∧ (sched bs n).getD j 0 < 4294967296 := by
 induction n with
 | zero => simp [sched]
 | succ n ih =>
   simp only [sched, List.getD_eq_getElem?_getD] at *
   by_cases hj : j < (sched bs n).length
   · rw [List.getElem?_append_left hj]; exact ih
   · rw [List.getElem?_append_right (by omega)]
     by_cases h0 : j - (sched bs n).length = 0
     · rw [h0]; simpa using nextW_bd bs (sched bs n) n
     · rw [List.getElem?_eq_none (by simp; omega)]; simp
def row64 (l : List Int) : List Value := (l ++ List.replicate (64 - l.length) 0).map (Value.int .u32)
theorem sched_len (bs : List Int) (n : Nat) : (sched bs n).length = n := by
 induction n with
 | zero => rfl
 | succ n ih => simp [sched, ih]
theorem row64_set {l : List Int} {x : Int} (h : l.length < 64) : (row64 l).set l.length (.int .u32 x) = row64 (l ++ [x]) := by
 unfold row64
 have e : 64 - l.length = (64 - (l ++ [x]).length) + 1 := by simp; omega
 rw [e, List.replicate_succ, List.map_append, List.map_append, List.map_append, List.set_append_right _ _ (by simp)]
 simp
theorem row64_at {l : List Int} {j : Nat} (h : j < l.length) : (row64 l)[j]? = some (.int .u32 (l.getD j 0)) := by
 unfold row64
 rw [List.getElem?_map, List.getElem?_append_left h, List.getElem?_eq_getElem h, List.getD_eq_getElem?_getD, List.getElem?_eq_getElem h]
 rfl
theorem row64_len {l : List Int} (h : l.length ≤ 64) : (row64 l).length = 64 := by
 simp [row64]; omega

set_option maxRecDepth 100000 in
set_option maxHeartbeats 1000000 in
theorem spread_in (b off cap : Nat) (bs : List Int) (w : World) (hc : 64 ≤ cap) (hm : cap ≤ 9223372036854775807) (hby : ∀ j : Nat, 0 ≤ bs.getD j 0 ∧ bs.getD j 0 ≤ 255)
 (hcell : ∀ j, j < 64 → w.cell? ⟨b, off + j, none⟩ = some (.int .u8 (bs.getD j 0))) :
 Calls Tryd.prog 98 #[.slice (some ⟨b, off, none⟩) 64 cap] w fun e w' => e = .returned (.agg ((sched bs 64).map (Value.int .u32)).toArray) ∧ Below w.heap.size w w' := by
 have HC := hide hcell
 have HBY := hide hby
 clear hcell hby
 go_enter Tryd.func98, Tryd.ntmps98
 go_wp2_with fail
 have hA0 := Arr.new w (row64 []) 170
 have hb0 : Below w.heap.size w (w.alloc (.cells (row64 []).toArray 170)) := (Below.refl _ _).alloc (Nat.le_refl _) _
 have hA1 := Arr.new (w.alloc (.cells (row64 []).toArray 170)) (row64 []) 170
 have hA0' := hA0.alloc (.cells (row64 []).toArray 170)
 have hb1 := hb0.alloc hb0.size (.cells (row64 []).toArray 170)
 have hsz : (w.alloc (.cells (row64 []).toArray 170)).heap.size = w.heap.size + 1 := by simp
 rw [hsz] at hA1
 clear hsz
 go_loopw [7] (fun i wr => ∃ k : Nat, k ≤ 16 ∧ i = .int .i64 (k : Int) ∧ Arr wr w.heap.size 170 (row64 []) ∧ Arr wr (w.heap.size + 1) 170 (row64 (sched bs k)) ∧ Below w.heap.size w wr) (fun i _ => 16 - (intOf i).toNat)
 case atStart => exact ⟨0, by omega, rfl, hA0', hA1, hb1⟩
 case round =>
  clear hA0 hA0' hA1 hb0 hb1
  obtain ⟨k, hk, rfl, hR, hW, hnx⟩ := hrel
  by_cases hk16 : k < 16
  · have hcs : ∀ j, j < 4 → wr.cell? ⟨b, off + (4 * k + j), none⟩ = some (.int .u8 (bs.getD (4 * k + j) 0)) := fun j hj => by
     have h := unhide HC (4 * k + j) (by omega)
     exact (hnx.cell (World.block_lt_of_cell? _ _ h)).trans h
    have h0 := hcs 0 (by omega)
    have h1 := hcs 1 (by omega)
    have h2 := hcs 2 (by omega)
    have h3 := hcs 3 (by omega)
    have b0 := unhide HBY (4 * k)
    have b1 := unhide HBY (4 * k + 1)
    have b2 := unhide HBY (4 * k + 2)
    have b3 := unhide HBY (4 * k + 3)
    simp only [Nat.add_zero, ← Nat.add_assoc] at h0 h1 h2 h3
    have HNX : Hid (sched bs (k + 1) = sched bs k ++ [bits .or .u32 (bits .or .u32 (bits .or .u32 (bs.getD (4 * k) 0 * 16777216) (bs.getD (4 * k + 1) 0 * 65536)) (bs.getD (4 * k + 2) 0 * 256)) (bs.getD (4 * k + 3) 0)]) := by
     show _ = _
     rw [sched, nextW, if_pos hk16]
     rfl
    generalize bs.getD (4 * k) 0 = x0 at *
    generalize bs.getD (4 * k + 1) 0 = x1 at *
    generalize bs.getD (4 * k + 2) 0 = x2 at *
    generalize bs.getD (4 * k + 3) 0 = x3 at *
    clear hcs
    have hfr := hW.frozen k
    have hce := hW.cell k
    have hln := sched_len bs k
    rw [List.getElem?_eq_getElem (by rw [row64_len (by omega)]; omega)] at hce
    generalize (row64 (sched bs k))[k]'(by rw [row64_len (by omega)]; omega) = old at hce
    have HLN := hide hln
    clear hln
    go_wp2_with fail
    go_region
    go_wp2
    go_roundw
    case rel =>
     have hln := HLN.out
     refine ⟨k + 1, by omega, by go_num, (hR.other _ _ (by simp)).drew, ?_, (hnx.setCell (by simp) _).drew⟩
     rw [HNX.out, ← row64_set (by omega), hln]
     exact (hW.set k _).drew
    case measure => simp [intOf]; omega
  · have hke : k = 16 := by omega
    have HKE := hide hke
    clear hke
    go_wp2_with fail
    go_loopw [6] (fun i wr => ∃ k : Nat, 16 ≤ k ∧ k ≤ 64 ∧ i = .int .i64 (k : Int) ∧ Arr wr w.heap.size 170 (row64 []) ∧ Arr wr (w.heap.size + 1) 170 (row64 (sched bs k)) ∧ Below w.heap.size w wr) (fun i _ => 64 - (intOf i).toNat)
    case atStart => exact ⟨16, by omega, by omega, rfl, hR, by rw [← HKE.out]; exact hW, hnx⟩
    case round =>
     clear hR hW hnx hk hk16
     obtain ⟨k, hk16, hk, rfl, hR, hW, hnx⟩ := hrel
     by_cases hk64 : k < 64
     · have hln := sched_len bs k
       have h2 := hW.cell (k - 2)
       have h7 := hW.cell (k - 7)
       have h15 := hW.cell (k - 15)
       have h16 := hW.cell (k - 16)
       rw [row64_at (by omega)] at h2 h7 h15 h16
       have b2 := sched_bd bs k (k - 2)
       have b7 := sched_bd bs k (k - 7)
       have b15 := sched_bd bs k (k - 15)
       have b16 := sched_bd bs k (k - 16)
       have HNX : Hid (sched bs (k + 1) = sched bs k ++ [(((sig1 ((sched bs k).getD (k - 2) 0) + (sched bs k).getD (k - 7) 0) % 4294967296 + sig0 ((sched bs k).getD (k - 15) 0)) % 4294967296 + (sched bs k).getD (k - 16) 0) % 4294967296]) := by
        show _ = _
        rw [sched, nextW, if_neg (by omega)]
       generalize (sched bs k).getD (k - 2) 0 = x2 at *
       generalize (sched bs k).getD (k - 7) 0 = x7 at *
       generalize (sched bs k).getD (k - 15) 0 = x15 at *
       generalize (sched bs k).getD (k - 16) 0 = x16 at *
       have hfr := hW.frozen k
       have hce := hW.cell k
       rw [List.getElem?_eq_getElem (by rw [row64_len (by omega)]; omega)] at hce
       generalize (row64 (sched bs k))[k]'(by rw [row64_len (by omega)]; omega) = old at hce
       have HLN := hide hln
       clear hln
       obtain ⟨m2, hm2⟩ : ∃ m, m = k - 2 := ⟨_, rfl⟩
       rw [← hm2] at h2
       have e2 : (k : Int) - 2 = (m2 : Int) := by omega
       have q2 : IntKind.i64.wrap (m2 : Int) = (m2 : Int) := IntWalk.i64_in _ (by omega)
       have f2 : (m2 : Int) < 64 := by omega
       have g2 : (0 : Int) ≤ (m2 : Int) := by omega
       obtain ⟨m7, hm7⟩ : ∃ m, m = k - 7 := ⟨_, rfl⟩
       rw [← hm7] at h7
       have e7 : (k : Int) - 7 = (m7 : Int) := by omega
       have q7 : IntKind.i64.wrap (m7 : Int) = (m7 : Int) := IntWalk.i64_in _ (by omega)
       have f7 : (m7 : Int) < 64 := by omega
       have g7 : (0 : Int) ≤ (m7 : Int) := by omega
       obtain ⟨m15, hm15⟩ : ∃ m, m = k - 15 := ⟨_, rfl⟩
       rw [← hm15] at h15
       have e15 : (k : Int) - 15 = (m15 : Int) := by omega
       have q15 : IntKind.i64.wrap (m15 : Int) = (m15 : Int) := IntWalk.i64_in _ (by omega)
       have f15 : (m15 : Int) < 64 := by omega
       have g15 : (0 : Int) ≤ (m15 : Int) := by omega
       obtain ⟨m16, hm16⟩ : ∃ m, m = k - 16 := ⟨_, rfl⟩
       rw [← hm16] at h16
       have e16 : (k : Int) - 16 = (m16 : Int) := by omega
       have q16 : IntKind.i64.wrap (m16 : Int) = (m16 : Int) := IntWalk.i64_in _ (by omega)
       have f16 : (m16 : Int) < 64 := by omega
       have g16 : (0 : Int) ≤ (m16 : Int) := by omega
       have HK : Hid (m2 < k ∧ m7 < k ∧ m15 < k ∧ m16 < k) := by
        show _ ∧ _ ∧ _ ∧ _
        omega
       have fk : (k : Int) < 64 := by omega
       have gk : (0 : Int) ≤ (k : Int) := by omega
       clear hm2 hm7 hm15 hm16
       go_wp2_with fail
       have hS : ∀ W : World, W.heap = wr.heap → (W.cell? ⟨w.heap.size + 1, m2, none⟩ = some (.int .u32 x2) ∧ W.cell? ⟨w.heap.size + 1, m7, none⟩ = some (.int .u32 x7) ∧ W.cell? ⟨w.heap.size + 1, m15, none⟩ = some (.int .u32 x15) ∧ W.cell? ⟨w.heap.size + 1, m16, none⟩ = some (.int .u32 x16)) := fun W hW' => by
        have e : ∀ a, W.cell? a = wr.cell? a := fun a => by unfold World.cell?; rw [hW']
        rw [e, e, e, e]
        exact ⟨h2, h7, h15, h16⟩
       have hS2 : ∀ (W : World) (u : Value), W.heap = wr.heap → ((W.setCell ⟨w.heap.size + 1, k, none⟩ u).cell? ⟨w.heap.size + 1, m2, none⟩ = some (.int .u32 x2) ∧ (W.setCell ⟨w.heap.size + 1, k, none⟩ u).cell? ⟨w.heap.size + 1, m7, none⟩ = some (.int .u32 x7) ∧ (W.setCell ⟨w.heap.size + 1, k, none⟩ u).cell? ⟨w.heap.size + 1, m15, none⟩ = some (.int .u32 x15) ∧ (W.setCell ⟨w.heap.size + 1, k, none⟩ u).cell? ⟨w.heap.size + 1, m16, none⟩ = some (.int .u32 x16)) := fun W u hW' => by
        have hA : Arr W (w.heap.size + 1) 170 (row64 (sched bs k)) := hW.keep (by rw [hW'])
        have hA2 := hA.set k u
        have hK := HK.out
        rw [hW.cell] at h2 h7 h15 h16
        rw [hA2.cell, hA2.cell, hA2.cell, hA2.cell, List.getElem?_set_ne (by omega), List.getElem?_set_ne (by omega), List.getElem?_set_ne (by omega), List.getElem?_set_ne (by omega)]
        exact ⟨h2, h7, h15, h16⟩
       have HS := hide hS
       have HS2 := hide hS2
       clear hS hS2
       go_region_held3 (fun W => W.cell? ⟨w.heap.size + 1, m2, none⟩ = some (.int .u32 x2) ∧ W.cell? ⟨w.heap.size + 1, m7, none⟩ = some (.int .u32 x7) ∧ W.cell? ⟨w.heap.size + 1, m15, none⟩ = some (.int .u32 x15) ∧ W.cell? ⟨w.heap.size + 1, m16, none⟩ = some (.int .u32 x16))
        (first | exact unhide HS _ rfl | exact unhide HS2 _ _ rfl)
        (first
        | (go_at_call 107; refine (mixedNew_calls x2 b2.1 b2.2 _).mono ?_; rintro e w1 ⟨rfl, hw1⟩; obtain rfl := hw1.symm)
        | (go_at_call 108; refine (mixedOld_calls x15 b15.1 b15.2 _).mono ?_; rintro e w1 ⟨rfl, hw1⟩; obtain rfl := hw1.symm))
       go_wp2
       go_roundw
       case rel =>
        have hln := HLN.out
        refine ⟨k + 1, by omega, by omega, by go_num, (hR.other _ _ (by simp)).drew, ?_, (hnx.setCell (by simp) _).drew⟩
        rw [HNX.out, ← row64_set (by omega), hln]
        exact (hW.set k _).drew
       case measure => simp [intOf]; omega
     · have hke : k = 64 := by omega
       rw [hke] at hW
       have hlen : (row64 (sched bs 64)).length = 64 := row64_len (by rw [sched_len]; omega)
       have hi79 : (Tryd.prog.info? 170).map (·.size) = some (row64 (sched bs 64)).length := by rw [hlen]; kernel_rfl
       have hlen0 : (row64 []).length = (row64 (sched bs 64)).length := by rw [hlen]; rfl
       have hone : ∀ u ∈ row64 (sched bs 64), u.oneCell' = true := fun u hu => by
        obtain ⟨x, _, rfl⟩ := List.mem_map.1 hu
        rfl
       have hR2 := hR.setRow (row64 (sched bs 64))
       have hnx2 := below_setRow hnx (Nat.le_refl _) (row64 (sched bs 64)).toArray
       have HF : Hid (row64 (sched bs 64) = (sched bs 64).map (Value.int .u32)) := by
        show _ = _
        simp [row64, sched_len]
       generalize row64 (sched bs 64) = C at *
       clear hlen
       go_wp2_with (first
        | refine wpList_loadArr rfl (.tmp 3) 170 rfl rfl hW Tryd.underlying170 hi79 ?_
        | refine wpList_storeArr rfl (.tmp 2) (.tmp 69) 170 rfl rfl rfl hR hi79 hlen0 hone ?_)
       refine bodyPost_ret (v := .agg C.toArray) (results_arr rfl rfl hR2 Tryd.underlying170 hi79) rfl ⟨by rw [HF.out], hnx2⟩
end Go.Proofs.YtlofoklfggmbiaaDoor

namespace Go.Proofs.YtlofoklfggmbiaaDoor
open Go.RowKit

/-- The eight words. -/
structure H8 where
 a : Int
 b : Int
 c : Int
 d : Int
 e : Int
 f : Int
 g : Int
 h : Int
def H8.vals (s : H8) : List Value := [.int .u32 s.a, .int .u32 s.b, .int .u32 s.c, .int .u32 s.d, .int .u32 s.e, .int .u32 s.f, .int .u32 s.g, .int .u32 s.h]

structure H8.ok (s : H8) : Prop where
 a : 0 ≤ s.a ∧ s.a < 4294967296
 b : 0 ≤ s.b ∧ s.b < 4294967296
 c : 0 ≤ s.c ∧ s.c < 4294967296
 d : 0 ≤ s.d ∧ s.d < 4294967296
 e : 0 ≤ s.e ∧ s.e < 4294967296
 f : 0 ≤ s.f ∧ s.f < 4294967296
 g : 0 ≤ s.g ∧ s.g < 4294967296
 h : 0 ≤ s.h ∧ s.h < 4294967296
def H8.x (s : H8) (k w : Int) : Int := ((((s.h + Sig1 s.e) % 4294967296 + bits .xor .u32 (bits .and .u32 s.e s.f) (bits .and .u32 (bits .xor .u32 IntKind.u32.max s.e) s.g)) % 4294967296 + k) % 4294967296 + w) % 4294967296
def H8.y (s : H8) : Int := (Sig0 s.a + bits .xor .u32 (bits .xor .u32 (bits .and .u32 s.a s.b) (bits .and .u32 s.a s.c)) (bits .and .u32 s.b s.c)) % 4294967296
def H8.step (s : H8) (k w : Int) : H8 := ⟨(s.x k w + s.y) % 4294967296, s.a, s.b, s.c, (s.d + s.x k w) % 4294967296, s.e, s.f, s.g⟩
theorem H8.step_ok {s : H8} (h : s.ok) (k w : Int) : (s.step k w).ok :=
 ⟨by simp only [H8.step]; omega, h.a, h.b, h.c, by simp only [H8.step]; omega, h.e, h.f, h.g⟩
def kTab : List Int := [1116352408, 1899447441, 3049323471, 3921009573, 961987163, 1508970993, 2453635748, 2870763221, 3624381080, 310598401, 607225278, 1426881987, 1925078388, 2162078206, 2614888103, 3248222580, 3835390401, 4022224774, 264347078, 604807628, 770255983, 1249150122, 1555081692, 1996064986, 2554220882, 2821834349, 2952996808, 3210313671, 3336571891, 3584528711, 113926993, 338241895, 666307205, 773529912, 1294757372, 1396182291, 1695183700, 1986661051, 2177026350, 2456956037, 2730485921, 2820302411, 3259730800, 3345764771, 3516065817, 3600352804, 4094571909, 275423344, 430227734, 506948616, 659060556, 883997877, 958139571, 1322822218, 1537002063, 1747873779, 1955562222, 2024104815, 2227730452, 2361852424, 2428436474, 2756734187, 3204031479, 3329325298]
/-- The sixty-four numbers lie in memory as they were laid. -/
def TabK (w : World) : Prop := ∀ i, i < 64 → w.cell? ⟨1, i, none⟩ = some (.int .u32 (kTab.getD i 0))
theorem TabK.below {w w' : World} (h : TabK w) (hb : Below w.heap.size w w') : TabK w' := fun i hi =>
 (hb.cell (p := ⟨1, i, none⟩) (World.block_lt_of_cell? w _ (h i hi))).trans (h i hi)
theorem kTab_bd : ∀ i : Nat, i < 64 → 0 ≤ kTab.getD i 0 ∧ kTab.getD i 0 < 4294967296 := by decide

/-- n rounds. -/
def rounds8 (s : H8) (ws : List Int) : Nat → H8
 | 0 => s
 | n + 1 => (rounds8 s ws n).step (kTab.getD n 0) (ws.getD n 0)
def H8.plus (s t : H8) : H8 := ⟨(s.a + t.a) % 4294967296, (s.b + t.b) % 4294967296, (s.c + t.c) % 4294967296, (s.d + t.d) % 4294967296, (s.e + t.e) % 4294967296, (s.f + t.f) % 4294967296, (s.g + t.g) % 4294967296, (s.h + t.h) % 4294967296⟩
theorem H8.plus_ok (s t : H8) : (s.plus t).ok := by constructor <;> simp only [H8.plus] <;> omega
/-- The words behind a block. -/
def blockF (s : H8) (bs : List Int) : H8 := s.plus (rounds8 s (sched bs 64) 64)
theorem blockF_ok (s : H8) (bs : List Int) : (blockF s bs).ok := H8.plus_ok _ _

set_option maxRecDepth 100000 in
set_option maxHeartbeats 1000000 in
theorem after_in (s : H8) (bb off cap : Nat) (bs : List Int) (w : World) (hc : 64 ≤ cap) (hm : cap ≤ 9223372036854775807) (hby : ∀ j : Nat, 0 ≤ bs.getD j 0 ∧ bs.getD j 0 ≤ 255)
 (hcell : ∀ j, j < 64 → w.cell? ⟨bb, off + j, none⟩ = some (.int .u8 (bs.getD j 0))) (ht : TabK w) (hs : s.ok) :
 Calls Tryd.prog 83 #[.agg s.vals.toArray, .slice (some ⟨bb, off, none⟩) 64 cap] w fun e w' => e = .returned (.agg (blockF s bs).vals.toArray) ∧ Below w.heap.size w w' := by
 obtain ⟨a0, b0, c0, d0, e0, f0, g0, h0⟩ := s
 show Calls Tryd.prog _ #[.agg #[.int .u32 a0, .int .u32 b0, .int .u32 c0, .int .u32 d0, .int .u32 e0, .int .u32 f0, .int .u32 g0, .int .u32 h0], _] w _
 have HC := hide hcell
 have HBY := hide hby
 have HT := hide ht
 clear hcell hby ht
 go_enter Tryd.func83, Tryd.ntmps83
 go_wp2_with fail
 have hA0 := Arr.new w [.int .u32 a0, .int .u32 b0, .int .u32 c0, .int .u32 d0, .int .u32 e0, .int .u32 f0, .int .u32 g0, .int .u32 h0] 154
 have hb0 : Below w.heap.size w (w.alloc (.cells #[.int .u32 a0, .int .u32 b0, .int .u32 c0, .int .u32 d0, .int .u32 e0, .int .u32 f0, .int .u32 g0, .int .u32 h0] 154)) := (Below.refl _ _).alloc (Nat.le_refl _) _
 have hA1 := Arr.new (w.alloc (.cells #[.int .u32 a0, .int .u32 b0, .int .u32 c0, .int .u32 d0, .int .u32 e0, .int .u32 f0, .int .u32 g0, .int .u32 h0] 154)) (List.replicate 8 (.int .u32 0)) 154
 have hA0' := hA0.alloc (.cells (List.replicate 8 (.int .u32 0)).toArray 154)
 have hb1 := hb0.alloc hb0.size (.cells (List.replicate 8 (.int .u32 0)).toArray 154)
 have hsz : (w.alloc (.cells #[.int .u32 a0, .int .u32 b0, .int .u32 c0, .int .u32 d0, .int .u32 e0, .int .u32 f0, .int .u32 g0, .int .u32 h0] 154)).heap.size = w.heap.size + 1 := by simp
 rw [hsz] at hA1
 have HA0 : Hid (Arr _ w.heap.size 154 [.int .u32 a0, .int .u32 b0, .int .u32 c0, .int .u32 d0, .int .u32 e0, .int .u32 f0, .int .u32 g0, .int .u32 h0]) := hA0'
 have HA1 : Hid (Arr _ (w.heap.size + 1) 154 (List.replicate 8 (.int .u32 0))) := hA1
 have HB1 := hide hb1
 clear hA0 hA0' hA1 hb0 hb1 hsz
 refine (spread_in bb off cap bs _ hc hm (unhide HBY) (fun j hj => by
  have h := unhide HC j hj
  exact ((unhide HB1).cell (World.block_lt_of_cell? _ _ h)).trans h)).mono ?_
 rintro e w3 ⟨rfl, hb3⟩
 have hA0 := (unhide HA0).below hb3
 have hA1 := (unhide HA1).below hb3
 have hB3 := below_then (unhide HB1) hb3
 clear HA0 HA1 HB1 hb3
 have hi79 : (Tryd.prog.info? 170).map (·.size) = some ((sched bs 64).map (Value.int .u32)).length := by rw [List.length_map, sched_len]; kernel_rfl
 have hlen0 : (row64 []).length = ((sched bs 64).map (Value.int .u32)).length := by rw [List.length_map, sched_len]; rfl
 have hone : ∀ u ∈ (sched bs 64).map (Value.int .u32), u.oneCell' = true := fun u hu => by
  obtain ⟨x, _, rfl⟩ := List.mem_map.1 hu
  rfl
 have HC64 : Hid (∀ j, j < 64 → ((sched bs 64).map (Value.int .u32))[j]? = some (.int .u32 ((sched bs 64).getD j 0))) := fun j hj => by
  have hl := sched_len bs 64
  rw [List.getElem?_map, List.getElem?_eq_getElem (by omega), List.getD_eq_getElem?_getD, List.getElem?_eq_getElem (by omega)]
  rfl
 generalize (sched bs 64).map (Value.int .u32) = C at *
 have hg3 := hA0.lt
 have hg3' := hA1.lt
 go_wp2_with (first
  | (refine wpList_storeArr2 rfl (.tmp 5) (.tmp 18) 170 rfl rfl rfl (Arr.new w3 (row64 []) _) hi79 hlen0 hone ?_; intro w4 hC4 hw4))
 have hA04 := (hA0.alloc (.cells (row64 []).toArray 170)).wrote hw4 (by omega)
 have hA14 := (hA1.alloc (.cells (row64 []).toArray 170)).wrote hw4 (by omega)
 have hB4 := hw4.below _ _ (hB3.alloc hB3.size _) hB3.size
 generalize w3.heap.size = gW at *
 clear hA0 hA1 hB3 hw4 hi79 hlen0 hone
 have k0 := hA04.cell 0
 have k1 := hA04.cell 1
 have k2 := hA04.cell 2
 have k3 := hA04.cell 3
 have k4 := hA04.cell 4
 have k5 := hA04.cell 5
 have k6 := hA04.cell 6
 have k7 := hA04.cell 7
 simp only [List.getElem?_cons_succ, List.getElem?_cons_zero] at k0 k1 k2 k3 k4 k5 k6 k7
 have HS : Hid (∀ W : World, W.heap = w4.heap → (W.cell? ⟨w.heap.size, 0, none⟩ = some (.int .u32 a0) ∧ W.cell? ⟨w.heap.size, 1, none⟩ = some (.int .u32 b0) ∧ W.cell? ⟨w.heap.size, 2, none⟩ = some (.int .u32 c0) ∧ W.cell? ⟨w.heap.size, 3, none⟩ = some (.int .u32 d0) ∧
  W.cell? ⟨w.heap.size, 4, none⟩ = some (.int .u32 e0) ∧ W.cell? ⟨w.heap.size, 5, none⟩ = some (.int .u32 f0) ∧ W.cell? ⟨w.heap.size, 6, none⟩ = some (.int .u32 g0) ∧ W.cell? ⟨w.heap.size, 7, none⟩ = some (.int .u32 h0))) := fun W hW => by
  have e : ∀ a, W.cell? a = w4.cell? a := fun a => by unfold World.cell?; rw [hW]
  rw [e, e, e, e, e, e, e, e]
  exact ⟨k0, k1, k2, k3, k4, k5, k6, k7⟩
 clear k0 k1 k2 k3 k4 k5 k6 k7
 go_region_held3 (fun W => W.cell? ⟨w.heap.size, 0, none⟩ = some (.int .u32 a0) ∧ W.cell? ⟨w.heap.size, 1, none⟩ = some (.int .u32 b0) ∧ W.cell? ⟨w.heap.size, 2, none⟩ = some (.int .u32 c0) ∧ W.cell? ⟨w.heap.size, 3, none⟩ = some (.int .u32 d0) ∧
  W.cell? ⟨w.heap.size, 4, none⟩ = some (.int .u32 e0) ∧ W.cell? ⟨w.heap.size, 5, none⟩ = some (.int .u32 f0) ∧ W.cell? ⟨w.heap.size, 6, none⟩ = some (.int .u32 g0) ∧ W.cell? ⟨w.heap.size, 7, none⟩ = some (.int .u32 h0))
  (exact unhide HS _ rfl) (fail)
 have hA05 := hA04.drew
 have hA15 := hA14.drew
 have hC5 := hC4.drew
 have hB5 := hB4.drew
 generalize w4.drew = w5 at *
 clear hA04 hA14 hC4 hB4 HS
 go_wp2_with fail
 have hs' := hs
 clear hs
 go_loopw [6, 7, 8, 9, 10, 11, 12, 13, 35] (fun va vb vc vd ve vf vg vh i wr => ∃ (k : Nat) (s : H8), k ≤ 64 ∧ va = .int .u32 s.a ∧ vb = .int .u32 s.b ∧ vc = .int .u32 s.c ∧ vd = .int .u32 s.d ∧ ve = .int .u32 s.e ∧ vf = .int .u32 s.f ∧ vg = .int .u32 s.g ∧ vh = .int .u32 s.h ∧ i = .int .i64 (k : Int) ∧ s.ok ∧ Hid (s = rounds8 ⟨a0, b0, c0, d0, e0, f0, g0, h0⟩ (sched bs 64) k) ∧
  Arr wr w.heap.size 154 [.int .u32 a0, .int .u32 b0, .int .u32 c0, .int .u32 d0, .int .u32 e0, .int .u32 f0, .int .u32 g0, .int .u32 h0] ∧ Arr wr (w.heap.size + 1) 154 (List.replicate 8 (.int .u32 0)) ∧ Arr wr gW 170 C ∧ Below w.heap.size w wr)
  (fun _ _ _ _ _ _ _ _ i _ => 64 - (intOf i).toNat)
 case atStart => exact ⟨0, ⟨a0, b0, c0, d0, e0, f0, g0, h0⟩, by omega, rfl, rfl, rfl, rfl, rfl, rfl, rfl, rfl, rfl, hs', rfl, hA05, hA15, hC5, hB5⟩
 case round =>
  clear hA05 hA15 hC5 hB5 hs'
  obtain ⟨k, ⟨a, b, c, d, e, f, g, q⟩, hk, rfl, rfl, rfl, rfl, rfl, rfl, rfl, rfl, rfl, hs, HR, hA0, hA1, hC, hnx⟩ := hrel
  by_cases hk64 : k < 64
  · have hkI : (k : Int) < 64 := by omega
    have hkI0 : (0 : Int) ≤ (k : Int) := by omega
    have hW := hC.cell k
    rw [unhide HC64 k hk64] at hW
    have hK := (unhide HT).below hnx k hk64
    have hwb := sched_bd bs 64 k
    have hkb := kTab_bd k hk64
    have HR2 : Hid ((⟨a, b, c, d, e, f, g, q⟩ : H8).step (kTab.getD k 0) ((sched bs 64).getD k 0) = rounds8 ⟨a0, b0, c0, d0, e0, f0, g0, h0⟩ (sched bs 64) (k + 1)) := by
     show _ = _
     rw [rounds8, ← HR.out]
    clear HR
    generalize (sched bs 64).getD k 0 = wt at *
    generalize kTab.getD k 0 = kt at *
    have hea := hs.e
    have haa := hs.a
    simp only at hea haa
    have HS : Hid (∀ W : World, W.heap = wr.heap → (W.cell? ⟨gW, k, none⟩ = some (.int .u32 wt) ∧ W.cell? ⟨1, k, none⟩ = some (.int .u32 kt))) := fun W hW' => by
     have e : ∀ a, W.cell? a = wr.cell? a := fun a => by unfold World.cell?; rw [hW']
     rw [e, e]
     exact ⟨hW, hK⟩
    clear hW hK
    go_wp2_with fail
    go_region_held3 (fun W => W.cell? ⟨gW, k, none⟩ = some (.int .u32 wt) ∧ W.cell? ⟨1, k, none⟩ = some (.int .u32 kt)) (exact unhide HS _ rfl)
     (first
       | (go_at_call 99; refine (turnedE_calls e hea.1 hea.2 _).mono ?_; rintro e' w1 ⟨rfl, hw1⟩; obtain rfl := hw1.symm))
    have hX : IntKind.u32.wrap (IntKind.u32.wrap (IntKind.u32.wrap (IntKind.u32.wrap (q + Sig1 e) + bits .xor .u32 (bits .and .u32 e f) (bits .and .u32 (bits .xor .u32 IntKind.u32.max e) g)) + kt) + wt) = (⟨a, b, c, d, e, f, g, q⟩ : H8).x kt wt := by
     simp only [IntKind.wrap_u32', H8.x]
    rw [hX]
    have hs2 := H8.step_ok hs kt wt
    have HS2 : Hid ((⟨a, b, c, d, e, f, g, q⟩ : H8).step kt wt = ⟨((⟨a, b, c, d, e, f, g, q⟩ : H8).x kt wt + (Sig0 a + bits .xor .u32 (bits .xor .u32 (bits .and .u32 a b) (bits .and .u32 a c)) (bits .and .u32 b c)) % 4294967296) % 4294967296, a, b, c, (d + (⟨a, b, c, d, e, f, g, q⟩ : H8).x kt wt) % 4294967296, e, f, g⟩) := rfl
    clear hX
    generalize (⟨a, b, c, d, e, f, g, q⟩ : H8).x kt wt = X at *
    go_wp2_with (go_at_call 100; refine (turnedA_calls a haa.1 haa.2 _).mono ?_; rintro e' w1 ⟨rfl, hw1⟩; obtain rfl := hw1.symm)
    rw [HS2.out] at hs2 HR2
    exact ⟨⟨k + 1, _, by omega, rfl, rfl, rfl, rfl, rfl, rfl, rfl, rfl, by go_num, hs2, HR2, hA0.drew, hA1.drew, hC.drew, hnx.drew⟩, by simp [intOf]; omega⟩
  · have hke : k = 64 := by omega
    have HR2 : Hid (blockF ⟨a0, b0, c0, d0, e0, f0, g0, h0⟩ bs = (⟨a0, b0, c0, d0, e0, f0, g0, h0⟩ : H8).plus ⟨a, b, c, d, e, f, g, q⟩) := by
     show _ = _
     rw [blockF, HR.out, hke]
    clear HR hke
    have k0 := hA0.cell 0
    have k1 := hA0.cell 1
    have k2 := hA0.cell 2
    have k3 := hA0.cell 3
    have k4 := hA0.cell 4
    have k5 := hA0.cell 5
    have k6 := hA0.cell 6
    have k7 := hA0.cell 7
    simp only [List.getElem?_cons_succ, List.getElem?_cons_zero] at k0 k1 k2 k3 k4 k5 k6 k7
    have hi82 : (Tryd.prog.info? 154).map (·.size) = some ((⟨a0, b0, c0, d0, e0, f0, g0, h0⟩ : H8).plus ⟨a, b, c, d, e, f, g, q⟩).vals.length := by kernel_rfl
    have hone : ∀ u ∈ ((⟨a0, b0, c0, d0, e0, f0, g0, h0⟩ : H8).plus ⟨a, b, c, d, e, f, g, q⟩).vals, u.oneCell' = true := by
     intro u hu
     simp only [H8.vals, List.mem_cons, List.not_mem_nil, or_false] at hu
     rcases hu with rfl | rfl | rfl | rfl | rfl | rfl | rfl | rfl <;> rfl
    have HI82 := hide hi82
    have HONE := hide hone
    clear hi82 hone
    go_wp2_with (refine wpList_storeArr2 (cs' := ((⟨a0, b0, c0, d0, e0, f0, g0, h0⟩ : H8).plus ⟨a, b, c, d, e, f, g, q⟩).vals) rfl (.tmp 4) (.tmp 118) 154 rfl rfl rfl hA1 (unhide HI82) rfl (unhide HONE) ?_; intro w6 hC6 hw6)
    refine bodyPost_ret (v := .agg ((⟨a0, b0, c0, d0, e0, f0, g0, h0⟩ : H8).plus ⟨a, b, c, d, e, f, g, q⟩).vals.toArray) (results_arr rfl rfl hC6 Tryd.underlying154 (unhide HI82)) rfl ⟨by rw [HR2.out], hw6.below _ _ hnx (by omega)⟩
end Go.Proofs.YtlofoklfggmbiaaDoor
