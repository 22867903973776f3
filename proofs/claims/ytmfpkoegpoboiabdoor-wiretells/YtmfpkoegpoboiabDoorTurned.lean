/- What turned does and answers. -/
import Derived.Test.YtmfpkoegpoboiabDoorTell
import Derived.Test.YtmfpkoegpoboiabDoorJoin
import Derived.BigRegion
import Derived.Laws.BitsAllLaws
import Derived.Maps.AppendAt
import Derived.Deep.DrawnRows
namespace Go.Proofs.YtmfpkoegpoboiabDoor
open Go.RowKit

/-- Bits turned over, one behind the other; one that is none is left out. -/
def turnAll (xs : List Int) : List Int → List Int
  | [] => xs
  | b :: t => turnAll (if 0 ≤ b ∧ b < 8 * (xs.length : Int) then flipped xs (b.toNat / 8) (b.toNat % 8) else xs) t
theorem flipped_len (xs : List Int) (p j : Nat) : (flipped xs p j).length = xs.length := by simp [flipped]
theorem turnAll_snoc (xs bs : List Int) (b : Int) : turnAll xs (bs ++ [b]) = if 0 ≤ b ∧ b < 8 * (xs.length : Int) then flipped (turnAll xs bs) (b.toNat / 8) (b.toNat % 8) else turnAll xs bs := by
  induction bs generalizing xs with
  | nil => rfl
  | cons c t ih =>
    show turnAll _ (t ++ [b]) = _
    rw [ih]
    have : (if 0 ≤ c ∧ c < 8 * (xs.length : Int) then flipped xs (c.toNat / 8) (c.toNat % 8) else xs).length = xs.length := by
      split
      · exact flipped_len _ _ _
      · rfl
    rw [this]
    rfl
theorem turnAll_len (xs bs : List Int) : (turnAll xs bs).length = xs.length := by
  induction bs generalizing xs with
  | nil => rfl
  | cons c t ih =>
    show (turnAll _ t).length = _
    rw [ih]
    split
    · exact flipped_len _ _ _
    · rfl

set_option maxRecDepth 100000 in
set_option maxHeartbeats 4000000 in
theorem turned_in {w : World} {g n cap bb bo m bc : Nat} {xs bs : List Int} {B : Nat} (hg : Own8 w B (.slice (some ⟨g, 0, none⟩) n cap) xs)
    (hm : m = bs.length) (hmc : m ≤ bc) (hbc : bc ≤ 9223372036854775807) (hl : xs.length ≤ 140737488351232) (hbg : bb ≠ g) (hcell : ∀ j, j < m → w.cell? ⟨bb, bo + j, none⟩ = some (.int .i64 (bs.getD j 0))) :
    Calls Tryd.prog 17 #[.slice (some ⟨g, 0, none⟩) n cap, .slice (some ⟨bb, bo, none⟩) m bc] w fun e w' => e = .returned (.bool (!decide (xs = turnAll xs bs))) ∧ Own8 w' B (.slice (some ⟨g, 0, none⟩) n cap) (turnAll xs bs) ∧ w.grownBy w' (some g) := by
  have hnl := hg.isB.lenEq
  have hn : n ≤ 140737488351232 := by omega
  have HN := hide hnl
  have HM := hide hm
  have HG := hide hg
  have HC := hide hcell
  have HL := hide hl
  have hglt : g < w.heap.size := by
    rcases hg.1.2 with ⟨h', _⟩ | ⟨g', cap', cur, h', _, hgg, _⟩
    · simp at h'
    · simp only [Value.slice.injEq, Option.some.injEq, Addr.mk.injEq, and_true] at h'
      obtain ⟨rfl, _⟩ := h'
      exact (Array.getElem?_eq_some_iff.1 hgg).1
  clear hg hm hcell hl hnl
  go_enter Tryd.func17, Tryd.ntmps17
  go_wp2_with fail
  have hbs := isBB_lit w [.slice (some ⟨g, 0, none⟩) n cap] [xs] _ rfl 1 rfl rfl (by decide) (fun j hj => by
    match j, hj with
    | 0, _ => exact (unhide HG).isB)
  have hbw : Below w.heap.size w (w.alloc (.cells #[.slice (some ⟨g, 0, none⟩) n cap] 23)) := (Below.refl _ _).alloc (Nat.le_refl _) _
  refine (join_calls hbs (by simpa using (unhide HG).isB.mem) (by have := HL.out; simp; omega)).mono ?_
  rintro e w1 ⟨va, vn, vc, rfl, hO1, hb1⟩
  rw [show [xs].flatten = xs by simp] at hO1
  have hB1 : Below w.heap.size w w1 := hbw.trans (hb1.mono hbw.size)
  have hsz1 := hB1.size
  have hG1 : Own8 w1 B (.slice (some ⟨g, 0, none⟩) n cap) xs := ⟨owns_below (unhide HG).1 hB1, (unhide HG).2⟩
  have HG1 := hide hG1
  have HO1 : Hid (Own8 w1 w.heap.size (.slice va vn vc) xs) := ⟨owns_mono hO1.1 (by simp), hO1.2⟩
  clear hbs hbw hb1 hO1 hG1
  go_wp2_with fail
  go_loopw [6] (fun i wr => ∃ k : Nat, k ≤ m ∧ i = .int .i64 (k : Int) ∧ Own8 wr B (.slice (some ⟨g, 0, none⟩) n cap) (turnAll xs (bs.take k)) ∧ w1.grownBy wr (some g)) (fun i _ => m - (intOf i).toNat)
  case atStart => exact ⟨0, by omega, rfl, unhide HG1, ⟨rfl, rfl, rfl, Nat.le_refl _, fun _ _ _ => rfl⟩⟩
  case round =>
    obtain ⟨k, hk, rfl, hown, hgr⟩ := hrel
    by_cases hlt : k < m
    · obtain ⟨J, hJ⟩ : ∃ J, J = bs.getD k 0 := ⟨_, rfl⟩
      have hcb0 := unhide HC k hlt
      have hcb1 : w1.cell? ⟨bb, bo + k, none⟩ = some (.int .i64 (bs.getD k 0)) := (hB1.cell (World.block_lt_of_cell? w _ hcb0)).trans hcb0
      have hcb : wr.cell? ⟨bb, bo + k, none⟩ = some (.int .i64 J) := by
        rw [hJ, ← hcb1]
        exact World.cell?_of_block (hgr.block bb (World.block_lt_of_cell? w1 _ hcb1) (by simpa using hbg))
      have hlen := turnAll_len xs (bs.take k)
      have htk : bs.take (k + 1) = bs.take k ++ [J] := by rw [take_snoc' (by rw [← HM.out]; exact hlt), hJ, List.getD_eq_getElem?_getD]
      have hts := turnAll_snoc xs (bs.take k) J
      rw [← htk] at hts
      generalize hys : turnAll xs (bs.take k) = ys at *
      have HTS := hide hts
      have HLN := hide hlen
      clear hcb0 hcb1 htk hts hys hlen hJ
      by_cases hJ0 : J < 0
      · have H2 : Hid (turnAll xs (bs.take (k + 1)) = ys) := by show _ = _; rw [HTS.out, if_neg (by omega)]
        go_wp2
        go_roundw
        case rel => exact ⟨k + 1, by omega, by go_num, by rw [H2.out]; exact hown, hgr⟩
        case measure => simp [intOf]; omega
      · obtain ⟨q, rfl⟩ := Int.eq_ofNat_of_zero_le (show 0 ≤ J by omega)
        by_cases hq : q < 8 * n
        · obtain ⟨p, hp⟩ : ∃ p, p = q / 8 := ⟨_, rfl⟩
          obtain ⟨j, hj⟩ : ∃ j, j = q % 8 := ⟨_, rfl⟩
          have hpn : p < n := by omega
          have hj8 : j < 8 := by omega
          have hyn : ys.length = n := by rw [HLN.out, ← HN.out]
          have hyl : p < ys.length := by rw [hyn]; exact hpn
          have hownN := hown.1
          rw [hyn] at hownN
          obtain ⟨c, hc, hcv⟩ : ∃ c : Nat, c < 256 ∧ (c : Int) = ys.getD p 0 := by
            have := hown.2 _ (List.getElem_mem hyl)
            refine ⟨(ys.getD p 0).toNat, ?_, ?_⟩ <;> (rw [List.getD_eq_getElem?_getD, List.getElem?_eq_getElem hyl, Option.getD_some]; omega)
          have hce : wr.cell? ⟨g, p, none⟩ = some (.int .u8 (c : Int)) := by
            rw [hownN.cellAt p (by omega), List.getElem?_map, hcv, List.getD_eq_getElem?_getD, List.getElem?_eq_getElem hyl]
            rfl
          have hfr := hownN.frozenAt p
          have hst := hownN.stored p (.int .u8 ((c ^^^ 2 ^ j : Nat) : Int))
          have HST := hide hst
          have hd1 : (q : Int) / 8 = (p : Int) := by omega
          have hd2 : (q : Int).tdiv 8 = (p : Int) := by rw [Int.tdiv_eq_ediv_of_nonneg (by omega)]; omega
          have hr1 : (q : Int) % 8 = (j : Int) := by omega
          have hr2 : (q : Int).tmod 8 = (j : Int) := by rw [Int.tmod_eq_emod_of_nonneg (by omega)]; omega
          have hpI : (p : Int) < (n : Int) := by omega
          have hpI0 : (0 : Int) ≤ (p : Int) := by omega
          have hkI : (k : Int) < (m : Int) := by omega
          have hkI0 : (0 : Int) ≤ (k : Int) := by omega
          have hqI : (q : Int) < 8 * (n : Int) := by omega
          have HYN := hide hyn
          have HX : Hid (bits .xor .u8 (c : Int) (2 ^ j % 256) = ((c ^^^ 2 ^ j : Nat) : Int)) := by
            have h2 : 2 ^ j < 256 := Nat.pow_lt_pow_right (by decide) (show j < 8 from hj8)
            have h3 := u8_xor_nat c (2 ^ j) hc h2
            have h4 : ((2 : Int) ^ j % 256) = ((2 ^ j : Nat) : Int) := by
              have h5 : ((2 ^ j : Nat) : Int) = (2 : Int) ^ j := by simp
              rw [← h5]
              exact Int.emod_eq_of_lt (Int.natCast_nonneg _) (by exact_mod_cast h2)
            show _ = _
            rw [h4]; exact h3
          have H2 : Hid (turnAll xs (bs.take (k + 1)) = ys.set p ((c ^^^ 2 ^ j : Nat) : Int)) := by
            show _ = _
            rw [HTS.out, if_pos (by rw [← HN.out]; omega), Int.toNat_natCast, ← hp, ← hj, flipped, ← hcv, Int.toNat_natCast]
          have HC8 : Hid (c ^^^ 2 ^ j < 256) := Nat.xor_lt_two_pow (n := 8) hc (Nat.pow_lt_pow_right (by decide) (show j < 8 from hj8))
          clear hst hp hj hyn hownN hcv
          go_wp2_with fail
          go_region
          rw [HX.out]
          go_wp2
          go_roundw
          case rel =>
            have h := unhide HST
            refine ⟨k + 1, by omega, by go_num, ⟨?_, ?_⟩, hgr.trans ⟨h.2.os, h.2.tape, h.2.output, h.2.size, h.2.block⟩⟩
            · rw [H2.out, List.length_set, HYN.out, List.map_set]
              exact h.1.drew
            · rw [H2.out]
              intro x hx
              rcases List.mem_or_eq_of_mem_set hx with hx | rfl
              · exact hown.2 x hx
              · have := HC8.out
                omega
          case measure => simp [intOf]; omega
        · have H2 : Hid (turnAll xs (bs.take (k + 1)) = ys) := by show _ = _; rw [HTS.out, if_neg (by rw [← HN.out]; omega)]
          have hqi : 8 * (n : Int) ≤ (q : Int) := by omega
          go_wp2
          go_roundw
          case rel => exact ⟨k + 1, by omega, by go_num, by rw [H2.out]; exact hown, hgr⟩
          case measure => simp [intOf]; omega
    · obtain rfl : k = m := by omega
      rw [List.take_of_length_le (by rw [← HM.out]; exact Nat.le_refl _)] at hown
      have hI1 : IsB wr (.slice va vn vc) xs := by
        have hk1 := (unhide HO1).1.kept hgr (by
          rcases (unhide HO1).1.2 with ⟨h', _⟩ | ⟨g', cap', cur, h', hge, _⟩
          · rw [h']; exact Or.inl rfl
          · rw [h']
            refine Or.inr ?_
            simp only [Value.ownBlock]
            intro e
            injection e with e
            omega)
        exact isB_owns hk1 (unhide HO1).2
      have hI2 := hown.isB
      have hS := same_calls hI1 hI2
      have HS := hide hS
      obtain ⟨D, hD⟩ : ∃ D, D = decide (xs = turnAll xs bs) := ⟨_, rfl⟩
      rw [← hD] at HS
      have HD := hide hD
      clear hI1 hI2 hS hD
      go_wp2_with fail
      refine (unhide HS).mono ?_
      rintro e w2 ⟨rfl, hw2⟩
      obtain rfl := hw2.symm
      clear hw2
      go_wp2
      go_ret
      exact ⟨by rw [← HD.out]; rfl, hown, ⟨hgr.os.trans hB1.os, hgr.tape.trans hB1.tape, hgr.output.trans hB1.output, Nat.le_trans hB1.size hgr.size, fun i hi hne => (hgr.block i (Nat.lt_of_lt_of_le hi hB1.size) hne).trans (hB1.block i hi)⟩⟩
end Go.Proofs.YtmfpkoegpoboiabDoor
