/- Plain mathematics of package wire: numbers in groups of seven bits, as lists of integers; nothing of the program. What wire.Uint answers: the number's groups of seven bits, in new memory. What it means that a value is a slice of bytes that reads a list; what is handed on; a slice's bytes as a string. What same, num, outside answer. What wire.Bytes answers: the length, then the bytes, in new memory. What the document's Uint, Bytes, outside answer: as wire's. What wire.Fixed answers. What wire.ReadFixed answers. What the document's Fixed and ReadFixed answer: as wire's. The sum, in plain numbers: a register of 32 bits, four bits a step by the table. -/
import Derived.WalkKit
import Derived.Test.YtlofoklfggmbiaaDoorProg
import Derived.WalkSpells
import Derived.Laws.AppendOwnNone
namespace Go.Proofs.YtlofoklfggmbiaaDoor
open Go.RowKit
theorem fGa {α : Type _} {l : List α} {i : Nat} (h : i < l.toArray.size) : l.toArray[i] = l[i]'(by simpa using h) := rfl
theorem fGs {α : Type _} {a : α} {l : List α} {i : Nat} (h : i + 1 < (a :: l).length) : (a :: l)[i + 1] = l[i]'(Nat.lt_of_succ_lt_succ h) := rfl
theorem fGz {α : Type _} {a : α} {l : List α} (h : 0 < (a :: l).length) : (a :: l)[0] = a := rfl
theorem fSa {α : Type _} {l : List α} {i : Nat} {a : α} : l.toArray.setIfInBounds i a = (l.set i a).toArray := List.setIfInBounds_toArray l i a
theorem fSz {α : Type _} {a b : α} {l : List α} : (a :: l).set 0 b = b :: l := rfl
theorem fSs {α : Type _} {a b : α} {l : List α} {i : Nat} : (a :: l).set (i + 1) b = a :: l.set i b := rfl

theorem hide {p : Prop} (h : p) : Hid p := h
theorem unhide {p : Prop} (h : Hid p) : p := h

theorem or_join_nat (x m i : Nat) (h : x < 2 ^ i) : x ||| (m * 2 ^ i) = x + m * 2 ^ i := by
 have := Nat.two_pow_add_eq_or_of_lt h m
 rw [Nat.mul_comm m, Nat.or_comm, ← this, Nat.add_comm]
theorem or_shl {X m : Int} {i : Nat} (h0 : 0 ≤ X) (h1 : X < 2 ^ i) (hm : 0 ≤ m) (hf : (m + 1) * 2 ^ i ≤ 18446744073709551616) :
 bits .or .u64 X (IntKind.u64.wrap (m * 2 ^ i)) = X + m * 2 ^ i := by
 obtain ⟨x, rfl⟩ := Int.eq_ofNat_of_zero_le h0
 obtain ⟨q, rfl⟩ := Int.eq_ofNat_of_zero_le hm
 have hp : ((2 : Int) ^ i) = ((2 ^ i : Nat) : Int) := by simp
 have hx : x < 2 ^ i := by rw [hp] at h1; exact_mod_cast h1
 rw [hp] at hf ⊢
 have hn : ((q : Int) * ((2 ^ i : Nat) : Int)) = ((q * 2 ^ i : Nat) : Int) := by simp
 have hq : (((q + 1) * 2 ^ i : Nat) : Int) = ((q : Int) + 1) * ((2 ^ i : Nat) : Int) := by rw [Int.natCast_mul, Int.natCast_add]; rfl
 have hf' : (q + 1) * 2 ^ i ≤ 18446744073709551616 := by rw [← hq] at hf; omega
 rw [Nat.add_mul] at hf'
 have hj := or_join_nat x q i hx
 rw [hn, IntWalk.u64_in _ ⟨by omega, by omega⟩, u64_or_nat x (q * 2 ^ i) (by omega) (by omega), hj]
 simp
theorem drop_at {xs : List Int} {i : Nat} (h : i < xs.length) : xs.drop i = xs[i]?.getD 0 :: xs.drop (i + 1) := by
 rw [List.drop_eq_getElem_cons h]; simp [h]
/-- The first k of n bytes of a number, the lowest first; the others 0. -/
def fK (V : Int) (n k : Nat) : List Int := (List.range n).map fun i => if i < k then V / 2 ^ (8 * i) % 256 else 0
def fB (V : Int) (n : Nat) : List Int := (List.range n).map fun i => V / 2 ^ (8 * i) % 256
theorem fK_zero (V : Int) (n : Nat) : fK V n 0 = List.replicate n 0 := by simp [fK, List.map_const']
theorem fK_all (V : Int) (n : Nat) : fK V n n = fB V n := by
 unfold fK fB
 refine List.map_congr_left fun i hi => ?_
 rw [if_pos (List.mem_range.1 hi)]
theorem fK_step (V : Int) (n k : Nat) : fK V n (k + 1) = (fK V n k).set k (V / 2 ^ (8 * k) % 256) := by
 refine List.ext_getElem (by simp [fK]) fun i h1 h2 => ?_
 simp only [fK, List.length_map, List.length_range] at h1
 simp only [fK, List.getElem_set, List.getElem_map, List.getElem_range]
 by_cases e : k = i
 · subst e; simp
 · rw [if_neg e]
   by_cases e2 : i < k
   · rw [if_pos (by omega), if_pos e2]
   · rw [if_neg (by omega), if_neg e2]
theorem fB_len (V : Int) (n : Nat) : (fB V n).length = n := by simp [fB]
theorem fB_bytes (V : Int) (n : Nat) : ∀ x ∈ fB V n, 0 ≤ x ∧ x ≤ 255 := by
 intro x hx
 obtain ⟨i, _, rfl⟩ := List.mem_map.1 hx
 omega

/-- The number that bytes are, the lowest first. -/
def leN : List Int → Int
 | [] => 0
 | c :: t => c + 256 * leN t
def rdF (xs : List Int) (at_ n : Int) : Int × Int × Int :=
 if at_ < 0 ∨ (xs.length : Int) < at_ then (0, 0, 1) else if n < 1 ∨ 8 < n then (0, 0, 1) else if (xs.length : Int) - at_ < n then (0, 0, 10)
 else (leN ((xs.drop at_.toNat).take n.toNat), at_ + n, 0)
theorem pow8_succ (k : Nat) : (2 : Int) ^ (8 * (k + 1)) = 256 * 2 ^ (8 * k) := by
 rw [Nat.mul_add, Int.pow_add, Int.mul_comm]; rfl
theorem or_byte {X c : Int} {k : Nat} (h0 : 0 ≤ X) (h1 : X < 2 ^ (8 * k)) (hc : 0 ≤ c) (hc1 : c ≤ 255) (hk : k ≤ 7) :
 bits .or .u64 X (IntKind.u64.wrap (c * 2 ^ (8 * k))) = X + c * 2 ^ (8 * k) := by
 refine or_shl h0 h1 hc ?_
 have hp : (2 : Int) ^ (8 * k) ≤ 2 ^ 56 := by exact_mod_cast Nat.pow_le_pow_right (by decide : 0 < 2) (show 8 * k ≤ 56 by omega)
 have := Int.mul_le_mul (show c + 1 ≤ 256 by omega) hp (by exact_mod_cast Nat.zero_le (2 ^ (8 * k))) (by decide)
 have e : (256 : Int) * 2 ^ 56 = 18446744073709551616 := by decide
 omega
theorem byte_step {X c : Int} {k : Nat} (h0 : 0 ≤ X) (h : X < 2 ^ (8 * k)) (hc : 0 ≤ c) (hc1 : c ≤ 255) : 0 ≤ X + c * 2 ^ (8 * k) ∧ X + c * 2 ^ (8 * k) < 2 ^ (8 * (k + 1)) := by
 rw [pow8_succ]
 have hp : (0 : Int) < 2 ^ (8 * k) := by omega
 generalize (2 : Int) ^ (8 * k) = p at h hp ⊢
 have h1 : 0 ≤ c * p := Int.mul_nonneg (by omega) (by omega)
 have h2 : c * p ≤ 255 * p := Int.mul_le_mul_of_nonneg_right (by omega) (by omega)
 constructor <;> omega
/-- Behind k bytes: what has been read, and what is left. -/
theorem leN_at {xs : List Int} {at_ k n : Nat} {X c : Int} (hn : at_ + n ≤ xs.length) (hk : k < n) (hE : leN ((xs.drop at_).take n) = X + 2 ^ (8 * k) * leN ((xs.drop (at_ + k)).take (n - k))) (hc : c = xs[at_ + k]?.getD 0) :
 leN ((xs.drop at_).take n) = X + c * 2 ^ (8 * k) + 2 ^ (8 * (k + 1)) * leN ((xs.drop (at_ + (k + 1))).take (n - (k + 1))) := by
 rw [hE, drop_at (show at_ + k < xs.length by omega), ← hc, show n - k = (n - (k + 1)) + 1 by omega, List.take_succ_cons, leN, pow8_succ, Nat.add_assoc]
 generalize leN ((xs.drop (at_ + (k + 1))).take (n - (k + 1))) = L
 rw [Int.mul_add, Int.mul_comm c, Int.add_assoc, ← Int.mul_assoc, Int.mul_comm 256]

end Go.Proofs.YtlofoklfggmbiaaDoor

namespace Go.Proofs.YtlofoklfggmbiaaDoor
open Go.RowKit

theorem info8 : (Tryd.prog.info? 5).map (fun i => (i.zero, i.size, i.bytes)) = some (some (.int .u8 0), 1, 1) := by kernel_rfl

theorem one_u8 (x : Int) : ∀ u ∈ [Value.int .u8 x], u.oneCell' = true := by intro u hu; simp at hu; subst hu; rfl

end Go.Proofs.YtlofoklfggmbiaaDoor

namespace Go.Proofs.YtlofoklfggmbiaaDoor
open Go.RowKit

/-- The value is a slice of bytes; in this world it reads the list. -/
structure IsB (w : World) (v : Value) (xs : List Int) : Prop where
 bytes : ∀ j : Nat, 0 ≤ xs[j]?.getD 0 ∧ xs[j]?.getD 0 ≤ 255
 val : ∃ a cap, v = .slice a xs.length cap ∧ xs.length ≤ cap ∧ cap ≤ 9223372036854775807 ∧ (a = none → cap = 0) ∧
  (0 < xs.length → ∃ b off, a = some ⟨b, off, none⟩ ∧ ∀ j, j < xs.length → w.cell? ⟨b, off + j, none⟩ = some (.int .u8 (xs.getD j 0)))

theorem IsB.below {w w' : World} {v : Value} {xs : List Int} (h : IsB w v xs) (hb : Below w.heap.size w w') : IsB w' v xs := by
 obtain ⟨h1, a, cap, hv, hl, hm, hz, hc⟩ := h
 refine ⟨h1, a, cap, hv, hl, hm, hz, fun hp => ?_⟩
 obtain ⟨b, off, ha, hcell⟩ := hc hp
 exact ⟨b, off, ha, fun j hj => (hb.cell (p := ⟨b, off + j, none⟩) (World.block_lt_of_cell? w _ (hcell j hj))).trans (hcell j hj)⟩

theorem bytes_mem {xs : List Int} (h : ∀ x ∈ xs, 0 ≤ x ∧ x ≤ 255) : ∀ j : Nat, 0 ≤ xs[j]?.getD 0 ∧ xs[j]?.getD 0 ≤ 255 := by
 intro j
 by_cases hj : j < xs.length
 · simp only [List.getElem?_eq_getElem hj, Option.getD_some]
   exact h _ (List.getElem_mem hj)
 · rw [List.getElem?_eq_none (by omega)]
   simp
theorem IsB.mem {w : World} {v : Value} {xs : List Int} (h : IsB w v xs) : ∀ x ∈ xs, 0 ≤ x ∧ x ≤ 255 := by
 intro x hx
 obtain ⟨j, hj, rfl⟩ := List.getElem_of_mem hx
 have := h.bytes j
 simpa [List.getElem?_eq_getElem hj] using this
theorem IsB.len {w : World} {v : Value} {xs : List Int} (h : IsB w v xs) : xs.length ≤ 9223372036854775807 := by
 obtain ⟨_, a, cap, hv, hl, hm, _, hc⟩ := h
 omega

theorem isB_owns {w : World} {base : Nat} {v : Value} {n : Nat} {xs : List Int} (h : w.ownsRow base 5 1 v n (xs.map (Value.int .u8))) (hb : ∀ x ∈ xs, 0 ≤ x ∧ x ≤ 255) : IsB w v xs := by
 obtain ⟨hn, h⟩ := h
 have hn' : n = xs.length := by simp at hn; exact hn.symm
 subst hn'
 refine ⟨bytes_mem hb, ?_⟩
 rcases h with ⟨rfl, h0⟩ | ⟨g, cap, cur, rfl, _, hg, hle, hm, hs, ht⟩
 · exact ⟨none, 0, by rw [h0], by omega, by omega, fun _ => rfl, fun hp => by omega⟩
 · refine ⟨_, cap, rfl, hle, by simpa [maxLen] using hm, (fun h => by cases h), fun _ => ⟨g, 0, rfl, fun j hj => ?_⟩⟩
   rw [cell_of_row w g (0 + j) cur 5 (0, 0) hg]
   have h2 : (cur.toList.take (xs.length * 1))[j]? = (xs.map (Value.int .u8))[j]? := by rw [ht]
   rw [List.getElem?_take_of_lt (by omega)] at h2
   simp only [Nat.zero_add]
   rw [Array.getElem?_toList] at h2
   rw [h2]
   simp [hj]

/-- A list of bytes as a string's. -/
def mkS (xs : List Int) : ByteArray := xs.foldl (fun r n => r.push (UInt8.ofNat n.toNat)) ByteArray.empty
theorem mkS_list (xs : List Int) (r : ByteArray) : (xs.foldl (fun r n => r.push (UInt8.ofNat n.toNat)) r).data.toList = r.data.toList ++ xs.map (fun n => UInt8.ofNat n.toNat) := by
 induction xs generalizing r with
 | nil => simp
 | cons x t ih => rw [List.foldl_cons, ih]; simp [ByteArray.push]
theorem mkS_inj {xs ys : List Int} (hx : ∀ x ∈ xs, 0 ≤ x ∧ x ≤ 255) (hy : ∀ x ∈ ys, 0 ≤ x ∧ x ≤ 255) (h : mkS xs = mkS ys) : xs = ys := by
 have h2 : xs.map (fun n => UInt8.ofNat n.toNat) = ys.map (fun n => UInt8.ofNat n.toNat) := by
  have a := mkS_list xs ByteArray.empty
  have b := mkS_list ys ByteArray.empty
  unfold mkS at h
  rw [h, b] at a
  simpa using a.symm
 clear h
 induction xs generalizing ys with
 | nil => cases ys with
   | nil => rfl
   | cons y t => simp at h2
 | cons x s ih => cases ys with
   | nil => simp at h2
   | cons y t =>
     simp only [List.map_cons, List.cons.injEq] at h2
     have e : x = y := by
      have hx0 := hx x (by simp)
      have hy0 := hy y (by simp)
      have e1 := congrArg UInt8.toNat h2.1
      simp only [UInt8.toNat_ofNat'] at e1
      omega
     rw [e, ih (fun z hz => hx z (by simp [hz])) (fun z hz => hy z (by simp [hz])) h2.2]

theorem conv_isB {w : World} {v : Value} {xs : List Int} (h : IsB w v xs) : (convert 26 9 v).run Tryd.prog w = .ok (.string (mkS xs)) w := by
 obtain ⟨_, a, cap, rfl, hl, hm, _, hc⟩ := h
 rw [run_convert_bytes_string w 26 9 5 a _ cap Tryd.underlying26 Tryd.underlying5 Tryd.underlying9]
 by_cases hp : 0 < xs.length
 · obtain ⟨b, off, rfl, hcell⟩ := hc hp
   rw [run_bytesToString w ⟨b, off, none⟩ xs.length cap xs]
   · rfl
   · have := run_loadCells_list (P := Tryd.prog) (w := w) ⟨b, off, none⟩ (xs.map (Value.int .u8)) (fun j v hj => by
      simp only [List.getElem?_map, Option.map_eq_some_iff] at hj
      obtain ⟨x, hx, rfl⟩ := hj
      have hjl := (List.getElem?_eq_some_iff.1 hx).1
      rw [Addr.add_lit, hcell j hjl, List.getD_eq_getElem?_getD, hx]
      rfl)
     simpa using this
 · have h0 : xs = [] := List.eq_nil_of_length_eq_zero (by omega)
   subst h0
   cases a with
   | none => simp [Conv.bytesToString, mkS]
   | some ad =>
     rw [run_bytesToString w ad _ cap []]
     · rfl
     · have := run_loadCells_list (P := Tryd.prog) (w := w) ad [] (fun j v hj => by simp at hj)
       simpa using this

/-- The cells of a slice that lies somewhere. -/
theorem IsB.cells {w : World} {ad : Addr} {cap : Nat} {xs : List Int} (h : IsB w (.slice (some ad) xs.length cap) xs) : ∀ j u, (xs.map (Value.int .u8))[j]? = some u → w.cell? (ad.add j) = some u := by
 intro j u hu
 simp only [List.getElem?_map, Option.map_eq_some_iff] at hu
 obtain ⟨x, hx, rfl⟩ := hu
 have hjl := (List.getElem?_eq_some_iff.1 hx).1
 obtain ⟨_, a, cp, hv, _, _, _, hc⟩ := h
 obtain ⟨b, off, ha, hcell⟩ := hc (by omega)
 injection hv with e1 _ _
 rw [ha] at e1
 injection e1 with e1
 rw [e1, Addr.add_lit, hcell j hjl, List.getD_eq_getElem?_getD, hx]
 rfl
end Go.Proofs.YtlofoklfggmbiaaDoor

namespace Go.Proofs.YtlofoklfggmbiaaDoor
open Go.RowKit

set_option maxHeartbeats 400000 in
theorem same_calls {w : World} {va vb : Value} {xs ys : List Int} (ha : IsB w va xs) (hb : IsB w vb ys) :
 Calls Tryd.prog 68 #[va, vb] w fun e w' => e = .returned (.bool (decide (xs = ys))) ∧ w' = w := by
 have c1 := conv_isB ha
 have c2 := conv_isB hb
 have he : ((mkS xs).toList == (mkS ys).toList) = decide (xs = ys) := by
  rw [Bool.eq_iff_iff, beq_iff_eq, decide_eq_true_iff, ByteArray.toList_eq, ByteArray.toList_eq]
  exact ⟨fun h => mkS_inj ha.mem hb.mem (congrArg ByteArray.mk (Array.toList_inj.1 h)), fun h => by rw [h]⟩
 clear ha hb
 go_enter Tryd.func68, Tryd.ntmps68
 go_wp2
 go_ret
 exact ⟨by rfl, rfl⟩

theorem outside_calls (a : Option Addr) (n cap : Nat) (at_ : Int) (w : World) :
 Calls Tryd.prog 97 #[.slice a n cap, .int .i64 at_] w fun e w' => e = .returned (.bool (decide (at_ < 0 ∨ (n : Int) < at_))) ∧ w' = w := by
 by_cases h1 : at_ < 0
 · go_enter Tryd.func97, Tryd.ntmps97
   go_wp2
   go_ret
   exact ⟨by simp [h1], rfl⟩
 · by_cases h2 : (n : Int) < at_
   all_goals
    go_enter Tryd.func97, Tryd.ntmps97
    go_wp2
    go_ret
    exact ⟨by simp [h1, h2], rfl⟩
theorem outside_yes {a : Option Addr} {n cap : Nat} {at_ : Int} (w : World) (h : at_ < 0 ∨ (n : Int) < at_) :
 Calls Tryd.prog 97 #[.slice a n cap, .int .i64 at_] w fun e w' => e = .returned (.bool true) ∧ w' = w := by
 have := outside_calls a n cap at_ w
 rwa [decide_eq_true h] at this
theorem outside_no {a : Option Addr} {n cap : Nat} {at_ : Int} (w : World) (h : ¬ (at_ < 0 ∨ (n : Int) < at_)) :
 Calls Tryd.prog 97 #[.slice a n cap, .int .i64 at_] w fun e w' => e = .returned (.bool false) ∧ w' = w := by
 have := outside_calls a n cap at_ w
 rwa [decide_eq_false h] at this
end Go.Proofs.YtlofoklfggmbiaaDoor

namespace Go.Proofs.YtlofoklfggmbiaaDoor
open Go.RowKit

theorem u8_one (xs : List Int) : ∀ u ∈ xs.map (Value.int .u8), u.oneCell' = true := by
 intro u hu
 obtain ⟨x, _, rfl⟩ := List.mem_map.1 hu
 rfl

end Go.Proofs.YtlofoklfggmbiaaDoor

namespace Go.Proofs.YtlofoklfggmbiaaDoor
open Go.RowKit

theorem u64_div {x : Int} {d : Int} (h0 : 0 ≤ x) (h1 : x ≤ 18446744073709551615) (hd : 0 < d) : IntKind.u64.wrap (x.tdiv d) = x / d := by
 rw [Int.tdiv_eq_ediv_of_nonneg h0]
 have a := Int.ediv_nonneg h0 (Int.le_of_lt hd)
 have b := Int.ediv_le_self d h0
 exact IntWalk.u64_in _ ⟨by omega, by omega⟩

theorem refOutside_calls (a : Option Addr) (n cap : Nat) (at_ : Int) (w : World) :
 Calls Tryd.prog 91 #[.slice a n cap, .int .i64 at_] w fun e w' => e = .returned (.bool (decide (at_ < 0 ∨ (n : Int) < at_))) ∧ w' = w := by
 by_cases h1 : at_ < 0
 · go_enter Tryd.func91, Tryd.ntmps91
   go_wp2
   go_ret
   exact ⟨by simp [h1], rfl⟩
 · by_cases h2 : (n : Int) < at_
   all_goals
    go_enter Tryd.func91, Tryd.ntmps91
    go_wp2
    go_ret
    exact ⟨by simp [h1, h2], rfl⟩
theorem refOutside_yes {a : Option Addr} {n cap : Nat} {at_ : Int} (w : World) (h : at_ < 0 ∨ (n : Int) < at_) :
 Calls Tryd.prog 91 #[.slice a n cap, .int .i64 at_] w fun e w' => e = .returned (.bool true) ∧ w' = w := by
 have := refOutside_calls a n cap at_ w
 rwa [decide_eq_true h] at this
theorem refOutside_no {a : Option Addr} {n cap : Nat} {at_ : Int} (w : World) (h : ¬ (at_ < 0 ∨ (n : Int) < at_)) :
 Calls Tryd.prog 91 #[.slice a n cap, .int .i64 at_] w fun e w' => e = .returned (.bool false) ∧ w' = w := by
 have := refOutside_calls a n cap at_ w
 rwa [decide_eq_false h] at this

end Go.Proofs.YtlofoklfggmbiaaDoor

namespace Go.Proofs.YtlofoklfggmbiaaDoor
open Go.RowKit

theorem made8 (n : Nat) : (madeCells (Value.int .u8 0).cells (n * 1)).toList = List.replicate n (.int .u8 0) := by
 have h : (Value.int .u8 0).cells = #[.int .u8 0] := rfl
 simp [madeCells, h, Nat.mod_one, List.map_const']

set_option maxRecDepth 100000 in
set_option maxHeartbeats 400000 in
theorem fixed_in (V : Int) (n : Nat) (w : World) (_h0 : 0 ≤ V) (h1 : 1 ≤ n) (h2 : n ≤ 8) (hv : (V / 2 ^ (8 * n) != 0) = false) :
 Calls Tryd.prog 104 #[.int .u64 V, .int .i64 n] w fun e w' => ∃ v, e = .returned (.tuple #[v, .int .i64 0]) ∧
  w'.ownsRow w.heap.size 5 1 v n ((fB V n).map (Value.int .u8)) ∧ Below w.heap.size w w' := by
 obtain ⟨i0, hi, hz0, hz1, hz2⟩ := info_parts info8
 go_enter Tryd.func104, Tryd.ntmps104
 go_wp2_with (at_make; refine wpList_make_full _ rfl _ _ 26 rfl w.heap.size 5 i0 (.int .u8 0) 1 Tryd.underlying26 hi hz0 hz1 .i64 .i64 _ _ n rfl rfl rfl rfl (by rw [hz2]; omega) (by unfold maxLen; omega) (Nat.le_refl _) ?_; intro w1 hown hgrow)
 have hown0 : w1.ownsRow w.heap.size 5 1 (.slice (some ⟨w.heap.size, 0, none⟩) n n) n ((fK V n 0).map (Value.int .u8)) := by
  rw [fK_zero, List.map_replicate]
  rw [made8] at hown
  exact hown
 have hbel := (Below.refl w.heap.size w).grown hgrow (Nat.le_refl _) (fun k hk => by cases hk)
 clear hown hgrow
 go_loopw [23] (fun i wr => ∃ k : Nat, k ≤ n ∧ i = .int .i64 k ∧ wr.ownsRow w.heap.size 5 1 (.slice (some ⟨w.heap.size, 0, none⟩) n n) n ((fK V n k).map (Value.int .u8)) ∧ Below w.heap.size w wr)
  (fun i _ => n - (intOf i).toNat)
 case atStart => exact ⟨0, Nat.zero_le _, rfl, hown0, hbel⟩
 case round =>
  clear hown0 hbel
  obtain ⟨k, hk, rfl, hown, hnx⟩ := hrel
  by_cases hlt : k < n
  · have hce := hown.cellAt k (by omega)
    have hfr := hown.frozenAt k
    have hst := hown.stored k (.int .u8 (V / 2 ^ (8 * k) % 256))
    have HST := hide hst
    have hce' : ∃ u, wr.cell? ⟨w.heap.size, k, none⟩ = some u := by rw [hce]; exact ⟨_, List.getElem?_eq_getElem (by simp [fK]; omega)⟩
    obtain ⟨u, hu⟩ := hce'
    clear hce hst
    go_wp2
    go_roundw
    case rel =>
     have h := unhide HST
     exact ⟨k + 1, by omega, by go_num, by rw [fK_step, List.map_set]; exact h.1, hnx.grown h.2 hnx.size (fun j hj => by injection hj with e; omega)⟩
    case measure => simp [intOf]; omega
  · go_wp2
    go_ret2
    obtain rfl : k = n := by omega
    exact ⟨_, rfl, by rw [← fK_all]; exact hown, hnx⟩

end Go.Proofs.YtlofoklfggmbiaaDoor

namespace Go.Proofs.YtlofoklfggmbiaaDoor
open Go.RowKit

set_option maxRecDepth 100000 in
set_option maxHeartbeats 400000 in
theorem rfixed_out (a : Option Addr) (len cap : Nat) (at_ n : Int) (w : World) (h : at_ < 0 ∨ (len : Int) < at_) :
 Calls Tryd.prog 81 #[.slice a len cap, .int .i64 at_, .int .i64 n] w fun e w' => e = .returned (.tuple #[.int .u64 0, .int .i64 0, .int .i64 1]) ∧ w' = w := by
 have H : Hid (at_ < 0 ∨ (len : Int) < at_) := h
 clear h
 go_enter Tryd.func81, Tryd.ntmps81
 go_wp2_with (go_at_call 97; refine (outside_yes _ H.out).mono ?_; rintro e w' ⟨rfl, rfl⟩)
 go_ret3
 exact ⟨rfl, rfl⟩

set_option maxRecDepth 100000 in
set_option maxHeartbeats 400000 in
theorem rfixed_arg (a : Option Addr) (len cap : Nat) (at_ n : Int) (w : World) (h : ¬ (at_ < 0 ∨ (len : Int) < at_)) (hn : n < 1 ∨ 8 < n) :
 Calls Tryd.prog 81 #[.slice a len cap, .int .i64 at_, .int .i64 n] w fun e w' => e = .returned (.tuple #[.int .u64 0, .int .i64 0, .int .i64 1]) ∧ w' = w := by
 have H : Hid (¬ (at_ < 0 ∨ (len : Int) < at_)) := h
 clear h
 by_cases h1 : n < 1
 · clear hn
   go_enter Tryd.func81, Tryd.ntmps81
   go_wp2_with (go_at_call 97; refine (outside_no _ H.out).mono ?_; rintro e w' ⟨rfl, rfl⟩)
   go_ret3
   exact ⟨rfl, rfl⟩
 · have h2 : 8 < n := by omega
   clear hn
   go_enter Tryd.func81, Tryd.ntmps81
   go_wp2_with (go_at_call 97; refine (outside_no _ H.out).mono ?_; rintro e w' ⟨rfl, rfl⟩)
   go_ret3
   exact ⟨rfl, rfl⟩

set_option maxRecDepth 100000 in
set_option maxHeartbeats 400000 in
theorem rfixed_short (a : Option Addr) (len cap at_ n : Nat) (w : World) (_hl : len ≤ 9223372036854775807) (h : at_ ≤ len) (h1 : 1 ≤ n) (h8 : n ≤ 8) (hs : len < at_ + n) :
 Calls Tryd.prog 81 #[.slice a len cap, .int .i64 at_, .int .i64 n] w fun e w' => e = .returned (.tuple #[.int .u64 0, .int .i64 0, .int .i64 10]) ∧ w' = w := by
 go_enter Tryd.func81, Tryd.ntmps81
 go_wp2_with (go_at_call 97; refine (outside_no _ (by omega)).mono ?_; rintro e w' ⟨rfl, rfl⟩)
 go_ret3
 exact ⟨rfl, rfl⟩

set_option maxRecDepth 100000 in
set_option maxHeartbeats 400000 in
theorem rfixed_in (b off len cap at_ n : Nat) (xs : List Int) (w : World) (hn : len = xs.length) (hn1 : len ≤ cap) (hc : cap ≤ 9223372036854775807) (h1 : 1 ≤ n) (h8 : n ≤ 8) (hs : at_ + n ≤ len)
 (hcell : ∀ j, j < len → w.cell? ⟨b, off + j, none⟩ = some (.int .u8 (xs.getD j 0))) (hb : ∀ j : Nat, 0 ≤ xs[j]?.getD 0 ∧ xs[j]?.getD 0 ≤ 255) :
 Calls Tryd.prog 81 #[.slice (some ⟨b, off, none⟩) len cap, .int .i64 at_, .int .i64 n] w fun e w' =>
  e = .returned (.tuple #[.int .u64 (leN ((xs.drop at_).take n)), .int .i64 (at_ + n), .int .i64 0]) ∧ w' = w := by
 have hca : ¬ cap = at_ := by omega
 have HN : Hid (len = xs.length) := hn
 clear hn
 go_enter Tryd.func81, Tryd.ntmps81
 go_wp2_with (go_at_call 97; refine (outside_no _ (by omega)).mono ?_; rintro e w' ⟨rfl, rfl⟩)
 go_loop [9, 36] (fun v i => ∃ (k : Nat) (X : Int), k ≤ n ∧ i = .int .i64 k ∧ v = .int .u64 X ∧ 0 ≤ X ∧ Hid (X < 2 ^ (8 * k)) ∧ Hid (leN ((xs.drop at_).take n) = X + 2 ^ (8 * k) * leN ((xs.drop (at_ + k)).take (n - k)))) (fun _ i => n - (intOf i).toNat)
 case atStart => exact ⟨0, 0, by omega, rfl, rfl, by omega, (by decide : (0 : Int) < 2 ^ (8 * 0)), by show _ = _; simp⟩
 case round =>
  obtain ⟨k, X, hk, rfl, rfl, hX, HX, HE⟩ := hrel
  by_cases hlt : k < n
  · obtain ⟨c, hcv⟩ : ∃ c, c = xs[at_ + k]?.getD 0 := ⟨_, rfl⟩
    have hce : w'.cell? ⟨b, off + at_ + k, none⟩ = some (.int .u8 c) := by
     have := hcell (at_ + k) (by omega)
     rw [← Nat.add_assoc] at this
     rw [this, hcv, List.getD_eq_getElem?_getD]
    have hbk := hb (at_ + k)
    rw [← hcv] at hbk
    obtain ⟨hc0, hc1⟩ := hbk
    have HR := hide (leN_at (by rw [← HN.out]; exact hs) hlt HE.out hcv)
    have hor := or_byte hX HX.out hc0 hc1 (show k ≤ 7 by omega)
    have HPS := hide (byte_step hX HX.out hc0 hc1)
    clear hcell hb hcv HE
    go_wp2
    go_round
    case rel => exact ⟨k + 1, X + c * 2 ^ (8 * k), by omega, by go_num, rfl, (unhide HPS).1, (unhide HPS).2, unhide HR⟩
    case measure => simp [intOf]; omega
  · obtain rfl : k = n := by omega
    have H : Hid (leN ((xs.drop at_).take k) = X) := by have := HE.out; simp [leN] at this; exact this
    clear HE
    go_wp2
    go_ret3
    rw [H.out]
    exact ⟨rfl, rfl⟩

/-- wire.ReadFixed, of every slice, place and width. -/
theorem rfixed_calls {w : World} {v : Value} {xs : List Int} (h : IsB w v xs) (at_ n : Int) :
 Calls Tryd.prog 81 #[v, .int .i64 at_, .int .i64 n] w fun e w' =>
  e = .returned (.tuple #[.int .u64 (rdF xs at_ n).1, .int .i64 (rdF xs at_ n).2.1, .int .i64 (rdF xs at_ n).2.2]) ∧ w' = w := by
 obtain ⟨hb, a, cap, rfl, hl, hm, _, hc⟩ := h
 by_cases ho : at_ < 0 ∨ (xs.length : Int) < at_
 · rw [rdF, if_pos ho]
   exact rfixed_out a _ cap at_ n w ho
 · rw [rdF, if_neg ho]
   by_cases hn : n < 1 ∨ 8 < n
   · rw [if_pos hn]
     exact rfixed_arg a _ cap at_ n w ho hn
   · rw [if_neg hn]
     obtain ⟨i, rfl⟩ := Int.eq_ofNat_of_zero_le (show 0 ≤ at_ by omega)
     obtain ⟨m, rfl⟩ := Int.eq_ofNat_of_zero_le (show 0 ≤ n by omega)
     by_cases hs : (xs.length : Int) - i < m
     · rw [if_pos hs]
       exact rfixed_short a _ cap i m w (by omega) (by omega) (by omega) (by omega) (by omega)
     · rw [if_neg hs]
       obtain ⟨b, off, rfl, hcell⟩ := hc (by omega)
       exact rfixed_in b off _ cap i m xs w rfl hl hm (by omega) (by omega) (by omega) hcell hb
end Go.Proofs.YtlofoklfggmbiaaDoor

namespace Go.Proofs.YtlofoklfggmbiaaDoor
open Go.RowKit

theorem fB_succ (V : Int) (n : Nat) : fB V (n + 1) = fB V n ++ [V / 2 ^ (8 * n) % 256] := by simp [fB, List.range_succ]
theorem div_step (V : Int) (k : Nat) : V / 2 ^ (8 * k) / 256 = V / 2 ^ (8 * (k + 1)) := by
 rw [Int.ediv_ediv_of_nonneg (by exact_mod_cast Nat.zero_le (2 ^ (8 * k))), pow8_succ, Int.mul_comm]
theorem leN_lt {ys : List Int} (h : ∀ x ∈ ys, 0 ≤ x ∧ x ≤ 255) : 0 ≤ leN ys ∧ leN ys < 2 ^ (8 * ys.length) := by
 induction ys with
 | nil => simp [leN]
 | cons c t ih =>
   have h1 := ih (fun x hx => h x (by simp [hx]))
   have h2 := h c (by simp)
   rw [List.length_cons, pow8_succ, leN]
   generalize (2 : Int) ^ (8 * t.length) = p at h1 ⊢
   omega

set_option maxRecDepth 100000 in
set_option maxHeartbeats 1000000 in
theorem refFixed_in (V : Int) (n : Nat) (w : World) (h0 : 0 ≤ V) (hV : V ≤ 18446744073709551615) (h1 : 1 ≤ n) (h2 : n ≤ 8) :
 Calls Tryd.prog 105 #[.int .u64 V, .int .i64 n] w fun e w' => ((V / 2 ^ (8 * n) != 0) = true ∧ e = .returned (.tuple #[.slice none 0 0, .int .i64 12]) ∨ (V / 2 ^ (8 * n) != 0) = false ∧ ∃ v, e = .returned (.tuple #[v, .int .i64 0]) ∧
  w'.ownsRow w.heap.size 5 1 v n ((fB V n).map (Value.int .u8))) ∧ Below w.heap.size w w' := by
 obtain ⟨i0, hi, hz0, hz1, hz2⟩ := info_parts info8
 go_enter Tryd.func105, Tryd.ntmps105
 go_wp2
 go_loopw [0, 6, 7] (fun v l i wr => ∃ (k : Nat) (x : Int), k ≤ n ∧ i = .int .i64 (k : Int) ∧ v = .int .u64 x ∧ 0 ≤ x ∧ x ≤ 18446744073709551615 ∧ Hid (x = V / 2 ^ (8 * k)) ∧ wr.ownsRow w.heap.size 5 1 l k ((fB V k).map (Value.int .u8)) ∧ Below w.heap.size w wr) (fun _ _ i _ => n - (intOf i).toNat)
 case atStart => exact ⟨0, V, by omega, rfl, rfl, h0, hV, by show V = _; simp, World.ownsRow_nil _ _ _ _, Below.refl _ _⟩
 case round =>
  obtain ⟨k, x, hk, rfl, rfl, hx0, hx1, HX, hown, hnx⟩ := hrel
  have hsz := hnx.size
  by_cases hlt : k < n
  · have hdiv := u64_div (d := 256) hx0 hx1 (by decide)
    go_wp2_with (first
     | (at_builtin; refine wpList_append_own _ rfl _ _ 26 rfl w.heap.size 5 i0 (.int .u8 0) 1 1 Tryd.underlying26 hi hz0 hz1 hz2 rfl (by decide) _ _ _ rfl (hown.alloc _) ⟨wr.heap.size, 0, none⟩ 1 1 [.int .u8 _] rfl rfl (cell_one_new _ _ _) (one_u8 _) (by unfold maxLen; omega) (by omega) (by simp; omega) ?_; intro v' w3 hown' hgrow hnil))
    go_roundw
    case rel =>
     exact ⟨k + 1, x / 256, by omega, by go_num, by first | rfl | rw [hdiv], by omega, by omega, by show _ = _; rw [HX.out, div_step], by rw [fB_succ, ← HX.out]; simpa using hown',
      (hnx.alloc hsz _).grown hgrow (by simp; omega) (fun k hk => (hown.lt k hk).1)⟩
    case measure => simp [intOf]; omega
  · obtain rfl : k = n := by omega
    by_cases hp : 0 < x
    · go_wp2
      go_ret2
      exact ⟨Or.inl ⟨by rw [← HX.out]; exact bne_iff_ne.2 (by omega), rfl⟩, hnx⟩
    · go_wp2
      go_ret2
      exact ⟨Or.inr ⟨by rw [← HX.out, show x = 0 by omega], _, rfl, hown⟩, hnx⟩

set_option maxRecDepth 100000 in
set_option maxHeartbeats 400000 in
theorem refRFixed_out (a : Option Addr) (len cap : Nat) (at_ n : Int) (w : World) (h : at_ < 0 ∨ (len : Int) < at_) :
 Calls Tryd.prog 70 #[.slice a len cap, .int .i64 at_, .int .i64 n] w fun e w' => e = .returned (.tuple #[.int .u64 0, .int .i64 0, .int .i64 1]) ∧ w' = w := by
 have H : Hid (at_ < 0 ∨ (len : Int) < at_) := h
 clear h
 go_enter Tryd.func70, Tryd.ntmps70
 go_wp2_with (go_at_call 91; refine (refOutside_yes _ H.out).mono ?_; rintro e w' ⟨rfl, rfl⟩)
 go_ret3
 exact ⟨rfl, rfl⟩

set_option maxRecDepth 100000 in
set_option maxHeartbeats 400000 in
theorem refRFixed_arg (a : Option Addr) (len cap : Nat) (at_ n : Int) (w : World) (h : ¬ (at_ < 0 ∨ (len : Int) < at_)) (hn : n < 1 ∨ 8 < n) :
 Calls Tryd.prog 70 #[.slice a len cap, .int .i64 at_, .int .i64 n] w fun e w' => e = .returned (.tuple #[.int .u64 0, .int .i64 0, .int .i64 1]) ∧ w' = w := by
 have H : Hid (¬ (at_ < 0 ∨ (len : Int) < at_)) := h
 clear h
 by_cases h1 : n < 1
 · clear hn
   go_enter Tryd.func70, Tryd.ntmps70
   go_wp2_with (go_at_call 91; refine (refOutside_no _ H.out).mono ?_; rintro e w' ⟨rfl, rfl⟩)
   go_ret3
   exact ⟨rfl, rfl⟩
 · have h2 : 8 < n := by omega
   clear hn
   go_enter Tryd.func70, Tryd.ntmps70
   go_wp2_with (go_at_call 91; refine (refOutside_no _ H.out).mono ?_; rintro e w' ⟨rfl, rfl⟩)
   go_ret3
   exact ⟨rfl, rfl⟩

set_option maxRecDepth 100000 in
set_option maxHeartbeats 400000 in
theorem refRFixed_short (a : Option Addr) (len cap at_ n : Nat) (w : World) (_hl : len ≤ 9223372036854775807) (h : at_ ≤ len) (h1 : 1 ≤ n) (h8 : n ≤ 8) (hs : len < at_ + n) :
 Calls Tryd.prog 70 #[.slice a len cap, .int .i64 at_, .int .i64 n] w fun e w' => e = .returned (.tuple #[.int .u64 0, .int .i64 0, .int .i64 10]) ∧ w' = w := by
 go_enter Tryd.func70, Tryd.ntmps70
 go_wp2_with (go_at_call 91; refine (refOutside_no _ (by omega)).mono ?_; rintro e w' ⟨rfl, rfl⟩)
 go_ret3
 exact ⟨rfl, rfl⟩

set_option maxRecDepth 100000 in
set_option maxHeartbeats 1000000 in
theorem refRFixed_in (b off len cap at_ n : Nat) (xs : List Int) (w : World) (hn : len = xs.length) (hn1 : len ≤ cap) (hc : cap ≤ 9223372036854775807) (h1 : 1 ≤ n) (h8 : n ≤ 8) (hs : at_ + n ≤ len)
 (hcell : ∀ j, j < len → w.cell? ⟨b, off + j, none⟩ = some (.int .u8 (xs.getD j 0))) (hb : ∀ j : Nat, 0 ≤ xs[j]?.getD 0 ∧ xs[j]?.getD 0 ≤ 255) :
 Calls Tryd.prog 70 #[.slice (some ⟨b, off, none⟩) len cap, .int .i64 at_, .int .i64 n] w fun e w' =>
  e = .returned (.tuple #[.int .u64 (leN ((xs.drop at_).take n)), .int .i64 (at_ + n), .int .i64 0]) ∧ w' = w := by
 have HN : Hid (len = xs.length) := hn
 have HB := hide hb
 have HC := hide hcell
 clear hn hb hcell
 go_enter Tryd.func70, Tryd.ntmps70
 go_wp2_with (go_at_call 91; refine (refOutside_no _ (by omega)).mono ?_; rintro e w' ⟨rfl, rfl⟩)
 go_loop [9, 10] (fun v i => ∃ (j : Nat) (X : Int), j ≤ n ∧ i = .int .i64 ((j : Int) - 1) ∧ v = .int .u64 X ∧ 0 ≤ X ∧ Hid (X < 2 ^ (8 * (n - j))) ∧ Hid (X = leN ((xs.drop (at_ + j)).take (n - j)))) (fun _ i => (intOf i + 1).toNat)
 case atStart => exact ⟨n, 0, by omega, by go_num, rfl, by omega, by show (0 : Int) < _; simp, by show (0 : Int) = _; simp [leN]⟩
 case round =>
  obtain ⟨j, X, hj, rfl, rfl, hX, HX, HE⟩ := hrel
  cases j with
  | zero =>
    have H : Hid (leN ((xs.drop at_).take n) = X) := hide (by have := HE.out; simpa using this.symm)
    clear HE HX
    go_wp2
    go_ret3
    rw [H.out]
    exact ⟨rfl, rfl⟩
  | succ m =>
    rw [show ((m + 1 : Nat) : Int) - 1 = (m : Int) by omega]
    obtain ⟨c, hcv⟩ : ∃ c, c = xs[at_ + m]?.getD 0 := ⟨_, rfl⟩
    have hce : w'.cell? ⟨b, off + (at_ + m), none⟩ = some (.int .u8 c) := by
     rw [unhide HC (at_ + m) (by omega), hcv, List.getD_eq_getElem?_getD]
    have hbk := unhide HB (at_ + m)
    rw [← hcv] at hbk
    obtain ⟨hc0, hc1⟩ := hbk
    have hpow : (2 : Int) ^ (8 * (n - m)) = 256 * 2 ^ (8 * (n - (m + 1))) := by rw [← pow8_succ]; congr 2; omega
    have hp56 : (2 : Int) ^ (8 * (n - (m + 1))) ≤ 72057594037927936 := by
     have : (2 : Int) ^ (8 * (n - (m + 1))) ≤ 2 ^ 56 := by exact_mod_cast Nat.pow_le_pow_right (by decide : 0 < 2) (show 8 * (n - (m + 1)) ≤ 56 by omega)
     simpa using this
    have hXl : X < 72057594037927936 := by have := HX.out; omega
    have HR : Hid (256 * X + c = leN ((xs.drop (at_ + m)).take (n - m))) := by
     show _ = _
     rw [drop_at (show at_ + m < xs.length by rw [← HN.out]; omega), ← hcv, show n - m = (n - (m + 1)) + 1 by omega, List.take_succ_cons, leN, HE.out, Nat.add_assoc]
     omega
    have HL : Hid (256 * X + c < 2 ^ (8 * (n - m))) := by show _ < _; rw [hpow]; have := HX.out; omega
    clear HE HX hcv hpow hp56
    go_wp2
    go_round
    case rel => exact ⟨m, 256 * X + c, by omega, by go_num, by first | rfl | go_num, by omega, HL, HR⟩
    case measure => simp [intOf]

/-- The document's ReadFixed, of every slice, place and width. -/
theorem refRFixed_calls {w : World} {v : Value} {xs : List Int} (h : IsB w v xs) (at_ n : Int) :
 Calls Tryd.prog 70 #[v, .int .i64 at_, .int .i64 n] w fun e w' =>
  e = .returned (.tuple #[.int .u64 (rdF xs at_ n).1, .int .i64 (rdF xs at_ n).2.1, .int .i64 (rdF xs at_ n).2.2]) ∧ w' = w := by
 obtain ⟨hb, a, cap, rfl, hl, hm, _, hc⟩ := h
 by_cases ho : at_ < 0 ∨ (xs.length : Int) < at_
 · rw [rdF, if_pos ho]
   exact refRFixed_out a _ cap at_ n w ho
 · rw [rdF, if_neg ho]
   by_cases hn : n < 1 ∨ 8 < n
   · rw [if_pos hn]
     exact refRFixed_arg a _ cap at_ n w ho hn
   · rw [if_neg hn]
     obtain ⟨i, rfl⟩ := Int.eq_ofNat_of_zero_le (show 0 ≤ at_ by omega)
     obtain ⟨m, rfl⟩ := Int.eq_ofNat_of_zero_le (show 0 ≤ n by omega)
     by_cases hs : (xs.length : Int) - i < m
     · rw [if_pos hs]
       exact refRFixed_short a _ cap i m w (by omega) (by omega) (by omega) (by omega) (by omega)
     · rw [if_neg hs]
       obtain ⟨b, off, rfl, hcell⟩ := hc (by omega)
       exact refRFixed_in b off _ cap i m xs w rfl hl hm (by omega) (by omega) (by omega) hcell hb
end Go.Proofs.YtlofoklfggmbiaaDoor

namespace Go.Proofs.YtlofoklfggmbiaaDoor
open Go.RowKit

def tab4 : List Nat := [0, 498536548, 997073096, 651767980, 1994146192, 1802195444, 1303535960, 1342533948, 3988292384, 4027552580, 3604390888, 3412177804, 2607071920, 2262029012, 2685067896, 3183342108]
def s4 (r : Nat) : Nat := (r / 16) ^^^ tab4.getD (r % 16) 0
def sB (r c : Nat) : Nat := s4 (s4 (r ^^^ c))
def crcN (r : Nat) (xs : List Int) : Nat := xs.foldl (fun r c => sB r c.toNat) r
def crcAll (r : Nat) (xss : List (List Int)) : Nat := xss.foldl crcN r
/-- The sum of lists of bytes. -/
def sumOf (xss : List (List Int)) : Int := ((4294967295 ^^^ crcAll 4294967295 xss : Nat) : Int)

theorem tab4_lt : ∀ i, i < 16 → tab4.getD i 0 < 2 ^ 32 := by decide
theorem s4_lt {r : Nat} (h : r < 2 ^ 32) : s4 r < 2 ^ 32 := Nat.xor_lt_two_pow (by omega) (tab4_lt _ (Nat.mod_lt _ (by decide)))
theorem sB_lt {r c : Nat} (h : r < 2 ^ 32) (hc : c < 2 ^ 32) : sB r c < 2 ^ 32 := s4_lt (s4_lt (Nat.xor_lt_two_pow h hc))
theorem crcN_snoc (r : Nat) (xs : List Int) (c : Int) : crcN r (xs ++ [c]) = sB (crcN r xs) c.toNat := by simp [crcN]
theorem crcN_append (r : Nat) (xs ys : List Int) : crcN r (xs ++ ys) = crcN (crcN r xs) ys := by simp [crcN]
theorem crcAll_snoc (r : Nat) (xss : List (List Int)) (ys : List Int) : crcAll r (xss ++ [ys]) = crcN (crcAll r xss) ys := by simp [crcAll]
theorem crcN_lt {r : Nat} {xs : List Int} (h : r < 2 ^ 32) (hx : ∀ x ∈ xs, 0 ≤ x ∧ x ≤ 255) : crcN r xs < 2 ^ 32 := by
 induction xs generalizing r with
 | nil => exact h
 | cons c t ih =>
   have hc := hx c (by simp)
   exact ih (sB_lt h (by omega)) (fun x hxt => hx x (by simp [hxt]))
theorem crcAll_lt {r : Nat} {xss : List (List Int)} (h : r < 2 ^ 32) (hx : ∀ xs ∈ xss, ∀ x ∈ xs, 0 ≤ x ∧ x ≤ 255) : crcAll r xss < 2 ^ 32 := by
 induction xss generalizing r with
 | nil => exact h
 | cons c t ih => exact ih (crcN_lt h (hx c (by simp))) (fun xs hxs => hx xs (by simp [hxs]))
theorem wraps_u32 (n : Int) (h₀ : 0 ≤ n) (h₁ : n < 2 ^ 32) : IntKind.u32.wrap n = n := by rw [IntKind.wrap_u32]; omega
theorem mask15 {r : Nat} (h : r < 2 ^ 32) : bits .and .u32 (r : Int) 15 = (r : Int) % 16 :=
 bits_mask .u32 32 (by decide) wraps_u32 4 (by decide) r (by omega) (by exact_mod_cast h)
theorem xor_max {r : Nat} (h : r < 2 ^ 32) : bits .xor .u32 IntKind.u32.max (r : Int) = ((4294967295 ^^^ r : Nat) : Int) := u32_xor_nat 4294967295 r (by decide) (by omega)
theorem xor_reg {r c : Nat} (h : r < 2 ^ 32) (hc : c < 2 ^ 32) : bits .xor .u32 (r : Int) (c : Int) = ((r ^^^ c : Nat) : Int) := u32_xor_nat r c (by omega) (by omega)
theorem xor_quarter {r c : Nat} (h : r < 2 ^ 32) (hc : c < 2 ^ 32) : bits .xor .u32 ((r : Int) / 16) (c : Int) = ((r / 16 ^^^ c : Nat) : Int) := by
 have := u32_xor_nat (r / 16) c (by omega) (by omega)
 simpa using this
theorem take_all {xs : List (List Int)} {k : Nat} (h : k < xs.length) : xs.take (k + 1) = xs.take k ++ [xs.getD k []] := by
 rw [List.take_succ_eq_append_getElem h]; simp [h]
theorem take_snoc' {xs : List Int} {k : Nat} (h : k < xs.length) : xs.take (k + 1) = xs.take k ++ [xs[k]?.getD 0] := by
 rw [List.take_succ_eq_append_getElem h]; simp [h]
end Go.Proofs.YtlofoklfggmbiaaDoor
