/- ShaKnown's walk: the sums that FIPS 180-4's examples tell. -/
import Derived.Test.YtpljlejmcojlaaaDoorShaHex
import Derived.Test.YtpljlejmcojlaaaDoorShaMill3
import Derived.Laws.IdiomStrings
namespace Go.Proofs.YtpljlejmcojlaaaDoor
open Go.RowKit

theorem kws_ok : kwsOk kwL (List.replicate 64 97) := ⟨by decide, by decide +kernel⟩
def endL : List Int := [128] ++ List.replicate 55 0 ++ cntB 1000000 8
theorem end_mill : endB (List.replicate 1000000 97) = endL := by
  unfold endB endL
  rw [List.length_replicate, List.drop_replicate, show 1000000 - 64 * (1000000 / 64) = 0 by decide, show zerosOf 1000000 = 55 by decide]
  rfl
def millL : List Int := [205, 199, 110, 92, 153, 20, 251, 146, 129, 161, 199, 226, 132, 215, 62, 103, 241, 128, 154, 72, 164, 151, 32, 14, 4, 109, 57, 204, 199, 17, 44, 208]
theorem mill_end : keyB (absorbN (N8.toH ⟨2061136107, 1745259042, 791610055, 2140370626, 1884297759, 3529239238, 671294972, 693152569⟩) endL 1) 32 = millL := by decide +kernel
theorem mill_sha : shaOf (List.replicate 1000000 97) = millL := by
  rw [sha_end, end_mill, List.length_replicate, show 1000000 / 64 = 15625 by decide, show endL.length / 64 = 1 by decide, absorb_iter kws_ok 15625 (fun j hj => ?_), st_79]
  · exact mill_end
  · rw [List.drop_replicate, List.take_replicate, Nat.min_eq_left (by omega)]
def hx1 : ByteArray := ⟨#[101, 51, 98, 48, 99, 52, 52, 50, 57, 56, 102, 99, 49, 99, 49, 52, 57, 97, 102, 98, 102, 52, 99, 56, 57, 57, 54, 102, 98, 57, 50, 52, 50, 55, 97, 101, 52, 49, 101, 52, 54, 52, 57, 98, 57, 51, 52, 99, 97, 52, 57, 53, 57, 57, 49, 98, 55, 56, 53, 50, 98, 56, 53, 53]⟩
def hx2 : ByteArray := ⟨#[98, 97, 55, 56, 49, 54, 98, 102, 56, 102, 48, 49, 99, 102, 101, 97, 52, 49, 52, 49, 52, 48, 100, 101, 53, 100, 97, 101, 50, 50, 50, 51, 98, 48, 48, 51, 54, 49, 97, 51, 57, 54, 49, 55, 55, 97, 57, 99, 98, 52, 49, 48, 102, 102, 54, 49, 102, 50, 48, 48, 49, 53, 97, 100]⟩
def hx3 : ByteArray := ⟨#[50, 52, 56, 100, 54, 97, 54, 49, 100, 50, 48, 54, 51, 56, 98, 56, 101, 53, 99, 48, 50, 54, 57, 51, 48, 99, 51, 101, 54, 48, 51, 57, 97, 51, 51, 99, 101, 52, 53, 57, 54, 52, 102, 102, 50, 49, 54, 55, 102, 54, 101, 99, 101, 100, 100, 52, 49, 57, 100, 98, 48, 54, 99, 49]⟩
def hx4 : ByteArray := ⟨#[99, 100, 99, 55, 54, 101, 53, 99, 57, 57, 49, 52, 102, 98, 57, 50, 56, 49, 97, 49, 99, 55, 101, 50, 56, 52, 100, 55, 51, 101, 54, 55, 102, 49, 56, 48, 57, 97, 52, 56, 97, 52, 57, 55, 50, 48, 48, 101, 48, 52, 54, 100, 51, 57, 99, 99, 99, 55, 49, 49, 50, 99, 100, 48]⟩
def longS : ByteArray := ⟨#[97, 98, 99, 100, 98, 99, 100, 101, 99, 100, 101, 102, 100, 101, 102, 103, 101, 102, 103, 104, 102, 103, 104, 105, 103, 104, 105, 106, 104, 105, 106, 107, 105, 106, 107, 108, 106, 107, 108, 109, 107, 108, 109, 110, 108, 109, 110, 111, 109, 110, 111, 112, 110, 111, 112, 113]⟩
def longL : List Int := [97, 98, 99, 100, 98, 99, 100, 101, 99, 100, 101, 102, 100, 101, 102, 103, 101, 102, 103, 104, 102, 103, 104, 105, 103, 104, 105, 106, 104, 105, 106, 107, 105, 106, 107, 108, 106, 107, 108, 109, 107, 108, 109, 110, 108, 109, 110, 111, 109, 110, 111, 112, 110, 111, 112, 113]
theorem kn1 : shaOf [] = keyL hx1 32 := by decide +kernel
theorem kn2 : shaOf [97, 98, 99] = keyL hx2 32 := by decide +kernel
theorem kn3 : shaOf longL = keyL hx3 32 := by decide +kernel
theorem kn4 : millL = keyL hx4 32 := by decide +kernel
theorem keyL_eql (s : ByteArray) (w : World) : (binOp .eql 28 (.agg ((keyL s 32).map (Value.int .u8)).toArray) (.agg ((keyL s 32).map (Value.int .u8)).toArray)).run Tryd.prog w = .ok (.bool true) w := by
  rw [key_eql _ _ (keyL_len s 32) (keyL_len s 32)]
  simp
/-- Bytes of a string that is no constant. -/
theorem str_bytes (s : ByteArray) (xs : List Int) (hs : s.data.toList.map (fun b => (b.toNat : Int)) = xs) (hl : s.size ≤ 1000) (W : World) :
    ∃ c N, (convert 9 26 (.string s)).run Tryd.prog W = .ok (.slice (some ⟨W.heap.size, 0, none⟩) s.size c) N ∧ IsB N (.slice (some ⟨W.heap.size, 0, none⟩) s.size c) xs ∧ N.heap.size = W.heap.size + 1 ∧ Below W.heap.size W N := by
  have hsz : s.size = xs.length := by rw [← hs, List.length_map, Array.length_toList]; rfl
  refine ⟨_, _, run_bytes_of_string W 9 26 5 s Tryd.underlying9 Tryd.underlying26 Tryd.underlying5, ?_, by simp, ⟨rfl, rfl, rfl, by simp, fun k hk => ?_⟩⟩
  · refine ⟨bytes_mem (fun x hx => ?_), some ⟨W.heap.size, 0, none⟩, grownCap W s.size 0 5, by rw [hsz], by rw [← hsz]; exact grownCap_ge _ _ _ _, by have := grownCap_le_maxLen W s.size 0 5 (by unfold maxLen; omega); simpa [maxLen] using this, (fun h => by cases h), fun _ => ⟨W.heap.size, 0, rfl, fun j hj => ?_⟩⟩
    · rw [← hs] at hx
      obtain ⟨b, _, rfl⟩ := List.mem_map.1 hx
      have := b.toNat_lt
      omega
    · have hj' : j < s.data.size := by have : s.size = s.data.size := rfl; omega
      have hnew := heap_alloc_new W.drew (.cells (bytesRow s (grownCap W s.size 0 5)) 5 ((bytesRow s (grownCap W s.size 0 5)).size, (bytesRow s (grownCap W s.size 0 5)).size + 1))
      rw [cell_of_row _ W.heap.size (0 + j) _ _ _ hnew, Nat.zero_add, bytesRow_at s _ j hj', ← hs, List.getD_eq_getElem?_getD, List.getElem?_map, List.getElem?_eq_getElem (by simpa using hj')]
      simp
  · show (W.heap.push _)[k]? = _
    rw [Array.getElem?_push, if_neg (by omega)]
end Go.Proofs.YtpljlejmcojlaaaDoor
