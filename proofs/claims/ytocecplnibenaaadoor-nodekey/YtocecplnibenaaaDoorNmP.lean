/- Many names that rise: pure. -/
import Derived.Test.YtocecplnibenaaaDoorNF
namespace Go.Proofs.YtocecplnibenaaaDoor
open Go.RowKit

def nthL (i : Nat) : List Int := [97 + ((i / 676 % 26 : Nat) : Int), 97 + ((i / 26 % 26 : Nat) : Int), 97 + ((i % 26 : Nat) : Int)]
def dirB (d : Int) (i : Nat) : Bool := decide (0 < d) && decide ((i : Int) % d = 0)
def manyK (i : Nat) : List Int := ((i % 256 : Nat) : Int) :: ((i / 256 % 256 : Nat) : Int) :: List.replicate 30 0
def manyE (d : Int) (i : Nat) : Ent := ⟨nthL i, dirB d i, manyK i, if dirB d i then List.replicate 32 0 else manyK i, i, i⟩
def manyL (d : Int) (n : Nat) : List Ent := (List.range n).map (manyE d)
theorem manyL_len (d : Int) (n : Nat) : (manyL d n).length = n := by unfold manyL; simp
theorem manyL_succ (d : Int) (n : Nat) : manyL d (n + 1) = manyL d n ++ [manyE d n] := by unfold manyL; rw [List.range_succ]; simp
theorem manyK_len (i : Nat) : (manyK i).length = 32 := by unfold manyK; simp
theorem manyK_byt (i : Nat) : Byt (manyK i) := by
  intro x hx
  unfold manyK at hx
  simp only [List.mem_cons, List.mem_replicate] at hx
  rcases hx with rfl | rfl | ⟨_, rfl⟩ <;> omega
theorem z32_byt : Byt (List.replicate 32 0) := by
  intro x hx
  rw [(List.mem_replicate.1 hx).2]
  omega
theorem nthL_byt (i : Nat) : Byt (nthL i) := by
  intro x hx
  unfold nthL at hx
  simp only [List.mem_cons, List.not_mem_nil, or_false] at hx
  rcases hx with rfl | rfl | rfl <;> omega
theorem manyE_ok (d : Int) (i : Nat) : EntOk (manyE d i) := by
  refine ⟨nthL_byt i, ⟨manyK_len i, manyK_byt i⟩, ?_⟩
  show (if dirB d i then List.replicate 32 0 else manyK i).length = 32 ∧ Byt (if dirB d i then List.replicate 32 0 else manyK i)
  cases dirB d i with
  | true => exact ⟨by simp, z32_byt⟩
  | false => exact ⟨manyK_len i, manyK_byt i⟩
theorem nthL_nb (i : Nat) : nbL (nthL i) = true := by
  refine (nameB_L _).2 ?_
  rw [toL_mkS, nmL_iff]
  have h : ∀ k : Fin 26, inL (UInt8.ofNat (97 + k.val)) = true := by decide
  have h' : ∀ k : Nat, k < 26 → inL (UInt8.ofNat ((97 + (k : Int)).toNat)) = true := fun k hk => by
    rw [show (97 + (k : Int)).toNat = 97 + k by omega]
    exact h ⟨k, hk⟩
  refine ⟨by unfold nthL; simp, by unfold nthL; simp, ?_, by unfold nthL; simp, by unfold nthL; simp⟩
  intro b hb
  unfold nthL at hb
  simp only [List.map_cons, List.map_nil, List.mem_cons, List.not_mem_nil, or_false] at hb
  rcases hb with rfl | rfl | rfl
  · exact h' _ (Nat.mod_lt _ (by decide))
  · exact h' _ (Nat.mod_lt _ (by decide))
  · exact h' _ (Nat.mod_lt _ (by decide))
theorem nthL_rise {i : Nat} (h : i + 1 < 17576) : ahd (nthL i) (nthL (i + 1)) = true := by
  unfold nthL
  rw [ahd, ahd, ahd]
  by_cases h1 : i % 26 < 25
  · rw [if_pos (by omega), if_pos (by omega), if_neg (by omega)]
    exact decide_eq_true (by omega)
  · by_cases h2 : i / 26 % 26 < 25
    · rw [if_pos (by omega), if_neg (by omega)]
      exact decide_eq_true (by omega)
    · rw [if_neg (by omega)]
      exact decide_eq_true (by omega)
theorem manyE_snd {d : Int} {i : Nat} (h : i ≤ 65535) : sndE (manyE d i) = true := by
  unfold sndE manyE
  simp only
  cases hd : dirB d i with
  | true => simp; omega
  | false => simp; omega
def manyFrom (d : Int) : Nat → Nat → List Ent
  | _, 0 => []
  | i, n + 1 => manyE d i :: manyFrom d (i + 1) n
theorem manyFrom_snoc (d : Int) : ∀ (n i : Nat), manyFrom d i (n + 1) = manyFrom d i n ++ [manyE d (i + n)]
  | 0, i => rfl
  | n + 1, i => by
    rw [manyFrom, manyFrom_snoc d n (i + 1), manyFrom, List.cons_append, show i + 1 + n = i + (n + 1) by omega]
theorem manyL_from (d : Int) : ∀ n : Nat, manyL d n = manyFrom d 0 n
  | 0 => rfl
  | n + 1 => by rw [manyL_succ, manyL_from d n, manyFrom_snoc, Nat.zero_add]
theorem manyFrom_chk (d : Int) : ∀ (n i : Nat), i + n ≤ 1027 → chkF nbL (if i = 0 then none else some (nthL (i - 1))) (manyFrom d i n) = 0
  | 0, _, _ => rfl
  | n + 1, i, h => by
    have h1 : chk1 nbL (if i = 0 then none else some (nthL (i - 1))) (manyE d i) = 0 := by
      unfold chk1
      rw [if_neg (by rw [show (manyE d i).nm = nthL i from rfl, nthL_nb]; decide), if_neg, if_neg (by rw [manyE_snd (by omega)]; decide)]
      by_cases hi : i = 0
      · rw [if_pos hi]; simp [late]
      · rw [if_neg hi]
        have := nthL_rise (i := i - 1) (by omega)
        rw [show i - 1 + 1 = i by omega] at this
        show ¬ (!ahd (nthL (i - 1)) (nthL i)) = true
        rw [this]; decide
    rw [manyFrom, chkF, if_neg (by rw [h1]; simp)]
    have := manyFrom_chk d n (i + 1) (by omega)
    rw [if_neg (by omega), show i + 1 - 1 = i by omega] at this
    exact this
theorem manyL_chk (d : Int) {n : Nat} (h : n ≤ 1027) : chkL nbL (manyL d n) = if 1024 < n then 82 else 0 := by
  unfold chkL
  rw [manyL_len]
  by_cases hn : 1024 < n
  · rw [if_pos hn, if_pos hn]
  · rw [if_neg hn, if_neg hn, manyL_from]
    exact manyFrom_chk d n 0 (by omega)
end Go.Proofs.YtocecplnibenaaaDoor
