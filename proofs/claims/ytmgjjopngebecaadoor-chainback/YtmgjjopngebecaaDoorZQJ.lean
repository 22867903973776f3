/- chain: the document's Next and Sound. chain: the document's Sound; a copy with room behind it. -/
import Derived.Test.YtmgjjopngebecaaDoorZQI
namespace Go.Proofs.YtmgjjopngebecaaDoor
open Go.RowKit Go.Maps

theorem fB_consC (v : Int) (n : Nat) : fB v (n + 1) = v % 256 :: fB (v / 256) n := by
  unfold fB
  rw [List.range_succ_eq_map, List.map_cons, List.map_map]
  congr 1
  · simp
  · refine List.map_congr_left fun i _ => ?_
    simp only [Function.comp, Nat.succ_eq_add_one, pow8_succ]
    rw [Int.ediv_ediv_of_nonneg (by decide)]
theorem leN_fBC (v : Int) (n : Nat) : leN (fB v n) = v % 2 ^ (8 * n) := by
  induction n generalizing v with
  | zero => simp [fB, leN, Int.emod_one]
  | succ m ih =>
    rw [fB_consC, leN, ih, pow8_succ]
    have hp : (0 : Int) < 2 ^ (8 * m) := Int.pow_pos (by decide)
    generalize (2 : Int) ^ (8 * m) = p at hp
    have h1 := Int.emod_add_mul_ediv (v / 256) p
    have h2 := Int.emod_nonneg (v / 256) (Int.ne_of_gt hp)
    have h3 := Int.emod_lt_of_pos (v / 256) hp
    have h5 : v = (v % 256 + 256 * ((v / 256) % p)) + 256 * p * (v / 256 / p) := by
      have : 256 * p * (v / 256 / p) = 256 * (p * (v / 256 / p)) := Int.mul_assoc _ _ _
      omega
    have h6 : (v % 256 + 256 * ((v / 256) % p)) % (256 * p) = v % 256 + 256 * ((v / 256) % p) := Int.emod_eq_of_lt (by omega) (by omega)
    conv => rhs; rw [h5]
    rw [Int.add_mul_emod_self_left, h6]
theorem rdF_four {xs : List Int} (h : xs.length = 512) : rdF xs 0 4 = (leN (xs.take 4), 4, 0) := by
  unfold rdF
  rw [if_neg (by omega), if_neg (by omega), if_neg (by omega)]
  simp
theorem secL_take [Inhabited SumTab] {hash : List Int} (place next : Int) (ps : List Int) : (secL hash place next ps).take 4 = fB next 4 := by
  unfold secL hdL hd28 hd12 hd8
  simp only [List.append_assoc]
  exact List.take_left' (fB_len _ _)
/-- What a sector names; -1: it is none of that piece. -/
def nextI [Inhabited SumTab] (bs hs : List Int) (le place : Int) : Int := if bs.length = 512 ∧ 0 ≤ place ∧ place < secN le then (if secL hs place (leN (bs.take 4)) ((bs.drop 28).take (cntI le place).toNat) = bs then leN (bs.take 4) else -1) else -1
theorem nextI_iff [Inhabited SumTab] {bs hs : List Int} {le place next : Int} (hn : okNext le place next) : nextI bs hs le place = next ↔ SoundP bs hs le place next := by
  have hn0 : 0 ≤ next ∧ next < 4294967296 := by rcases hn with h | h <;> omega
  unfold nextI
  by_cases h1 : bs.length = 512 ∧ 0 ≤ place ∧ place < secN le
  · rw [if_pos h1]
    by_cases h2 : secL hs place (leN (bs.take 4)) ((bs.drop 28).take (cntI le place).toNat) = bs
    · rw [if_pos h2]
      refine ⟨fun h => ⟨h1.1, h1.2, hn, by rw [← h]; exact h2.symm⟩, fun h => ?_⟩
      rw [h.2.2.2, secL_take, leN_fBC]
      exact Int.emod_eq_of_lt hn0.1 (by omega)
    · rw [if_neg h2]
      refine ⟨fun h => by omega, fun h => ?_⟩
      have h3 := h.2.2.2
      have h4 : leN (bs.take 4) = next := by
        rw [h3, secL_take, leN_fBC]
        exact Int.emod_eq_of_lt hn0.1 (by omega)
      rw [h4] at h2
      exact absurd h3.symm h2
  · rw [if_neg h1]
    exact ⟨fun h => by omega, fun h => absurd ⟨h.1, h.2.1⟩ h1⟩
set_option maxRecDepth 100000 in
theorem refLength_calls {w : World} {c : Nat} {hs : List Int} {fi le place : Int} (hh : hs.length = 32) (h0 : 0 ≤ place) (h1 : place < secN le) (hc : cntI le place = (c : Int)) :
    Calls Tryd.prog 58 #[.agg (refV hs fi le).toArray, .int .i64 place] w fun e w' => e = .returned (.int .i64 (c : Int)) ∧ Below w.heap.size w w' := by
  have hk := cnt_ok h0 h1
  have hs9 := secN_hi le
  have hb0 := (Below.refl w.heap.size w).alloc (Nat.le_refl _) (.cells (refV hs fi le).toArray 26)
  have hc33 : (w.alloc (.cells (refV hs fi le).toArray 26)).cell? ⟨w.heap.size, 33, none⟩ = some (.int .i64 le) := arr_cell (Arr.new w (refV hs fi le) 26) (refV_33 hh fi le)
  have e1 : IntKind.i64.wrap (480 * place) = place * 480 := by rw [Int.mul_comm]; exact IntWalk.i64_in _ (by omega)
  unfold cntI at hc
  have HB := hide hb0
  clear hb0 hh
  by_cases hlt : le - place * 480 < 480
  · have e2 : IntKind.i64.wrap (le - place * 480) = (c : Int) := by rw [show le - place * 480 = (c : Int) by omega]; exact IntWalk.i64_in _ (by omega)
    have e5 : (c : Int) < 480 := by omega
    clear hk hs9 hc hlt h0 h1
    go_enter Tryd.func58, Tryd.ntmps58
    go_wp2
    go_ret
    exact ⟨rfl, HB.out⟩
  · obtain ⟨x, hx⟩ : ∃ x, x = le - place * 480 := ⟨_, rfl⟩
    have e2 : IntKind.i64.wrap (le - place * 480) = x := by rw [← hx]; exact IntWalk.i64_in _ (by omega)
    have e5 : ¬ x < 480 := by omega
    have e6 : (480 : Int) ≤ x := by omega
    have hc480 : c = 480 := by omega
    subst hc480
    have HX := hide hx
    clear hk hs9 hc hlt hx h0 h1
    go_enter Tryd.func58, Tryd.ntmps58
    go_wp2
    go_ret
    exact ⟨rfl, HB.out⟩
theorem refSector4_enter (v u z q : Value) (W : World) : (callFunc 39 #[v, u, z, q]).run Tryd.prog W = .ok (.enter 39 #[v, u, z, q]) W := by kernel_rfl
end Go.Proofs.YtmgjjopngebecaaDoor

namespace Go.Proofs.YtmgjjopngebecaaDoor
open Go.RowKit Go.Maps

set_option maxRecDepth 100000 in
theorem roomy6_calls {w : World} {v : Value} {xs : List Int} (h : IsB w v xs) (hl : xs.length ≤ 140737488351300) :
    Calls Tryd.prog 6 #[v] w fun e w' => ∃ u, e = .returned u ∧ Own8 w' w.heap.size u (xs ++ [201, 202, 203, 204, 205]) ∧ Below w.heap.size w w' := by
  obtain ⟨a, n, c, rfl⟩ := h.shape
  have HI := hide h
  have HO := hide (Own8.nil w w.heap.size)
  have HB := hide (Below.refl w.heap.size w)
  clear h
  have hl1 : ([] : List Int).length + xs.length ≤ 140737488355328 := by simp; omega
  have hl2 : ([] ++ xs).length + [(201 : Int), 202, 203, 204, 205].length ≤ 140737488355328 := by simp; omega
  have hs0 : w.heap.size ≤ w.heap.size := Nat.le_refl _
  go_enter Tryd.func6, Tryd.ntmps6
  go_wp2_with (first
    | (at_builtin; refine wpList_appB rfl (.tmp 4) (.tmp 5) rfl rfl HO.out rfl HI.out hl1 (Nat.le_refl _) ?_; intro v1 w1 ho1 hg1
       have hb1 := below_own8 HB.out HO.out hg1 (Nat.le_refl _)
       obtain ⟨a1, m1, c1, rfl⟩ := ho1.shape
       have hbz := (Below.refl w1.heap.size w1).alloc (Nat.le_refl _) (.cells #[.int .u8 201, .int .u8 202, .int .u8 203, .int .u8 204, .int .u8 205] 5)
       have HO2 := hide (ho1.below hbz)
       have HB2 := hide (hb1.trans (hbz.mono hb1.size))
       have hs2 : w.heap.size ≤ (w1.alloc (.cells #[.int .u8 201, .int .u8 202, .int .u8 203, .int .u8 204, .int .u8 205] 5)).heap.size := Nat.le_trans hb1.size hbz.size
       have HI2 := hide (isB_lit w1 [201, 202, 203, 204, 205] (by decide) (by decide))
       clear ho1 hg1 hb1 hbz)
    | (at_builtin; refine wpList_appB rfl (.tmp 7) (.tmp 8) rfl rfl HO2.out rfl HI2.out hl2 hs2 ?_; intro v3 w3 ho3 hg3
       have hb3 := below_own8 HB2.out HO2.out hg3 hs2
       have HE := hide (And.intro ho3 hb3)
       clear ho3 hg3 hb3 HO2 HI2 HB2))
  go_ret
  exact ⟨_, rfl, HE.out.1, HE.out.2⟩
end Go.Proofs.YtmgjjopngebecaaDoor
