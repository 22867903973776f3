/- ShaLong's walk. -/
import Derived.Test.YtmnmnepiikeomaaDoorShaTold
import Derived.Deep.DeepCutAuto
import Derived.Deep.RegionHeld3
import Derived.Deep.MidRow
namespace Go.Proofs.YtmnmnepiikeomaaDoor
open Go.RowKit

theorem Arr.range {w : World} {g : Nat} {t : TypeId} {cs : List Value} (h : Arr w g t cs) : w.rangeAt g 0 cs := fun j v hv => by rw [Nat.zero_add, h.cell]; exact hv
theorem range_below {w w' : World} {g o : Nat} {cs : List Value} (h : w.rangeAt g o cs) (hb : Below w.heap.size w w') : w'.rangeAt g o cs := fun j v hv => (hb.cell (World.block_lt_of_cell? w _ (h j v hv))).trans (h j v hv)
set_option maxRecDepth 100000 in
set_option maxHeartbeats 4000000 in
theorem long_walk (n0 fi bY pc : Int) (hn0 : -9223372036854775808 ≤ n0 ∧ n0 ≤ 9223372036854775807) (hfi : -9223372036854775808 ≤ fi ∧ fi ≤ 9223372036854775807) (hbY : -9223372036854775808 ≤ bY ∧ bY ≤ 9223372036854775807) (hpc : -9223372036854775808 ≤ pc ∧ pc ≤ 9223372036854775807) {w : World} (hT : Tabs w) :
    Calls Tryd.prog 5 #[.int .i64 n0, .int .i64 fi, .int .i64 bY, .int .i64 pc] w fun e w' => e = .returned (.bool true) ∧ Below w.heap.size w w' := by
  obtain ⟨i0, hi, hz0, hz1, hz2⟩ := info_parts info8
  have HT := hide hT
  have hKl := hT.ltK
  have hSl := hT.ltS
  have hke := keyV_eql
  have hkn := keyV_neq
  have hkg := keyV_guard
  clear hT
  go_enter Tryd.func5, Tryd.ntmps5
  go_upto_region 1 with fail
  go_cut [20] (fun a wc => a = .bool (decide (n0 < 0 ∨ 200000 < n0)) ∧ w = wc)
  case first =>
    by_cases h1 : n0 < 0
    · go_wp2
      go_meet
      exact ⟨by simp [h1], rfl⟩
    · go_wp2
      go_meet
      exact ⟨congrArg Value.bool (decide_eq_decide.2 (by omega)), rfl⟩
  case rest =>
  obtain ⟨rfl, rfl⟩ := hcut
  go_upto_if 20 with fail
  go_cut [0] (fun a wc => ∃ m : Nat, a = .int .i64 (m : Int) ∧ m ≤ 200000 ∧ w = wc)
  case first =>
    by_cases h1 : n0 < 0 ∨ 200000 < n0
    · go_wp2
      go_meet
      exact ⟨100000, rfl, by omega, rfl⟩
    · go_wp2
      go_meet
      exact ⟨n0.toNat, by rw [Int.toNat_of_nonneg (by omega)], by omega, rfl⟩
  case rest =>
  obtain ⟨m, rfl, hm, rfl⟩ := hcut
  go_upto_if 22 with fail
  go_cut [3] (fun a wc => ∃ p : Nat, a = .int .i64 (p : Int) ∧ 1 ≤ p ∧ p ≤ 9223372036854775807 ∧ w = wc)
  case first =>
    by_cases h1 : pc < 1
    · go_wp2
      go_meet
      exact ⟨1, rfl, by omega, by omega, rfl⟩
    · go_wp2
      go_meet
      exact ⟨pc.toNat, by rw [Int.toNat_of_nonneg (by omega)], by omega, by omega, rfl⟩
  case rest =>
  obtain ⟨p, rfl, hp1, hp2, rfl⟩ := hcut
  clear hn0 hpc
  go_wp2_with (go_at_call 9; refine (told_calls (unhide HT)).mono ?_; rintro e w1 ⟨rfl, hB1⟩)
  go_loopw [9, 10] (fun v i wr => ∃ (k : Nat) (xs : List Int), k ≤ m ∧ i = .int .i64 (k : Int) ∧ xs.length = k ∧ Own8 wr w.heap.size v xs ∧ Below w.heap.size w wr) (fun _ i _ => m - (intOf i).toNat)
  case atStart => exact ⟨0, [], by omega, rfl, rfl, Own8.nil _ _, hB1⟩
  case round =>
    clear hB1
    obtain ⟨k, xs, hk, rfl, hxl, hown, hnx⟩ := hrel
    have hsz := hnx.size
    have HXL := hide hxl
    by_cases hlt : k < m
    · have HL : Hid (∀ (W : World) (x : Int), 0 ≤ x → x ≤ 255 → IsB (W.alloc (.cells #[.int .u8 x] 5)) (.slice (some ⟨W.heap.size, 0, none⟩) 1 1) [x]) := fun W x h0 h1 => isB_lit W [x] (by intro y hy; simp at hy; omega) (by simp)
      clear hxl
      go_wp2_with (at_builtin; refine wpList_appB rfl (.tmp 30) (.tmp 37) rfl rfl (hown.below (lit_below _ _)) rfl (unhide HL wr _ (by omega) (by omega)) (by have := HXL.out; simp; omega) (by simp; omega) ?_; intro v3 w3 hown3 hgrow3; have hB3 := (hnx.alloc hsz (.cells #[.int .u8 _] 5)).grown hgrow3 (by simp; omega) (fun k hk => (hown.1.lt k hk).1); clear hgrow3)
      go_roundw
      case rel => exact ⟨k + 1, _, by omega, by go_num, by rw [List.length_append, HXL.out]; rfl, hown3, hB3⟩
      case measure => simp [intOf]; omega
    · have hkm : k = m := by omega
      rw [hkm] at hxl
      obtain ⟨a, nb, cb, rfl⟩ := hown.shape
      have hX := hown.isB
      have hnb := hX.lenEq
      have hnm : nb = m := by omega
      subst hnm
      have hi48 : (Tryd.prog.info? 28).map (·.size) = some ((shaOf xs).map (Value.int .u8)).length := by rw [keyV_len]; kernel_rfl
      have hl48 : (row32 []).length = ((shaOf xs).map (Value.int .u8)).length := by rw [keyV_len]; rfl
      have hk32 := keyV_len xs
      have hone48 := u8_one (shaOf xs)
      have hu48 := Tryd.underlying28
      have HRS : Hid (∀ W, Below wr.heap.size wr W → Calls Tryd.prog 12 #[.slice a nb cb] W fun e w' => e = .returned (.agg ((shaOf xs).map (Value.int .u8)).toArray) ∧ Below W.heap.size W w') := fun W hW => rsum_calls (hX.below hW) (by omega)
      have HSU : Hid (∀ W, Below wr.heap.size wr W → Calls Tryd.prog 11 #[.slice (some ⟨W.heap.size, 0, none⟩) 1 1] (W.alloc (.cells #[.slice a nb cb] 26)) fun e w' => e = .returned (.agg ((shaOf xs).map (Value.int .u8)).toArray) ∧ Below W.heap.size W w') := fun W hW => by
        have hT2 := (((unhide HT).below hnx).below hW).below (lit_below W (.cells #[.slice a nb cb] 26))
        refine (sums_calls (isBB_one (hX.below hW)) (by simp; omega) hT2.k hT2.s).mono ?_
        rintro e w' ⟨rfl, h2⟩
        exact ⟨by simp [keyV], below_alloc h2⟩
      have HKY : Hid (∀ W g, IsHash W g xs → TabK W → Calls Tryd.prog 22 #[.pointer (some ⟨g, 0, none⟩)] W fun e w' => e = .returned (.agg ((shaOf xs).map (Value.int .u8)).toArray) ∧ Below W.heap.size W w') := fun W g h1 h2 => keys_calls h1 h2
      have hke2 := hke xs
      have hkn2 := hkn xs
      have hkg2 := fun op x y W => hkg op x y xs xs W
      rw [keyV] at hke2 hkn2 hkg2
      clear hke hkn hkg
      generalize (shaOf xs).map (Value.int .u8) = KV at *
      have HX := hide hX
      have HOWN := hide hown
      have HNB := hide hnb
      clear hkm HXL hxl hX hnb hown
      go_wp2_with (first
        | (go_at_call 12; refine (unhide HRS _ (Below.refl _ _)).mono ?_; rintro e w2 ⟨rfl, hb2⟩)
        | (refine wpList_storeArr2 (cs' := KV) rfl (.tmp 11) (.tmp 40) 28 rfl rfl rfl (Arr.new w2 (row32 []) 28) hi48 hl48 hone48 ?_; intro w3 hR3 hw3; have hb3 := hw3.below _ _ ((lit_below w2 (.cells (row32 []).toArray 28))) (Nat.le_refl _); have hB3 := below_then hnx (below_then hb2 hb3); have hT3 := (unhide HT).below hB3)
        | (go_at_call 15; refine (shaNew_calls hT3.s).mono ?_; rintro e w4 ⟨rfl, hH4, hb4⟩))
      have hR4 := (hR3.below hb4).range
      have HR : Hid (∀ W, Below w4.heap.size w4 W → (Below w4.heap.size w4 W ∧ W.rangeAt w2.heap.size 0 KV)) := fun W hW => ⟨hW, range_below hR4 hW⟩
      have hb4' := below_then hb2 (below_then hb3 hb4)
      have HSU4 : Hid (∀ W, Below w4.heap.size w4 W → Calls Tryd.prog 11 #[.slice (some ⟨W.heap.size, 0, none⟩) 1 1] (W.alloc (.cells #[.slice a nb cb] 26)) fun e w' => e = .returned (.agg KV.toArray) ∧ Below W.heap.size W w') := fun W hW => unhide HSU W (below_then hb4' hW)
      have hB34 := below_then hnx (below_then hb2 hb3)
      have HX3 := hide ((unhide HX).below (below_then hb2 hb3))
      have HR3 := hide hR3
      have HT3 := hide hT3
      have hg2 := hR3.lt
      have hg3 := hH4.lt
      have HB3 := hide hB34
      clear HSU hR3 hw3 hT3 hB34 hB3 HX HOWN
      go_region_held3 (fun W => Below w4.heap.size w4 W ∧ W.rangeAt w2.heap.size 0 KV)
        ((refine unhide HR _ ?_; repeat (first | assumption | exact Below.refl _ _ | refine Below.drew ?_ | exact lit_below _ _)))
        (first
          | (go_at_call 11; refine (unhide HSU4 w4.drew (Below.drew (Below.refl _ _))).mono ?_; rintro e w5 ⟨rfl, hb5⟩; have hB5 : Below w4.heap.size w4 w5 := below_drew hb5))
      have hH5 := hH4.below hB5
      have hB35 := below_then hb4 hB5
      clear hH4 hb5 hB5 hb4 hb2 hb3 hR4 HR HSU4 hnx HRS hb4'
      go_wp2
      go_loopw [13] (fun i wr => ∃ q : Nat, q ≤ nb ∧ i = .int .i64 (q : Int) ∧ IsHash wr w3.heap.size (xs.take q) ∧ Below w3.heap.size w3 wr) (fun i _ => nb - (intOf i).toNat)
      case atStart => exact ⟨0, by omega, rfl, by rw [List.take_zero]; exact hH5, hB35⟩
      case round =>
        clear hH5 hB35
        obtain ⟨q, hq, rfl, hH, hx⟩ := hrel
        by_cases hqt : q < nb
        · obtain ⟨tt, hto1, hto2, hto3⟩ : ∃ tt : Nat, q < tt ∧ tt ≤ nb ∧ ((p < nb - q ∧ tt = q + p) ∨ (nb - q ≤ p ∧ tt = nb)) := by
            by_cases hp : p < nb - q
            · exact ⟨q + p, by omega, by omega, Or.inl ⟨hp, rfl⟩⟩
            · exact ⟨nb, by omega, by omega, Or.inr ⟨by omega, rfl⟩⟩
          have hXx := (unhide HX3).below hx
          have hrm := hXx.room
          obtain ⟨bb, off, rfl, hbb⟩ : ∃ bb off, a = some ⟨bb, off, none⟩ ∧ bb < w3.heap.size := by
            have h1 := (unhide HX3).blockLt (by omega)
            obtain ⟨_, a', cp', hv, _, _, _, hc⟩ := unhide HX3
            obtain ⟨b', o', ha, _⟩ := hc (by rw [← HNB.out]; omega)
            injection hv with e1
            exact ⟨b', o', e1.trans ha, h1 _ (e1.trans ha)⟩
          have hmid := hXx.mid (l := q) (h := tt) (by omega) hto2 (by omega)
          have hlen := HNB.out
          have HTK : Hid (xs.take q ++ (xs.drop q).take (tt - q) = xs.take tt) := by
            show _ = _
            rw [← List.take_add, show q + (tt - q) = tt by omega]
          have HW : Hid (Calls Tryd.prog 19 #[.pointer (some ⟨w3.heap.size, 0, none⟩), .slice (some ⟨bb, off + q, none⟩) (tt - q) (cb - q)] wr fun e w' => (∃ v, e = .returned v) ∧ IsHash w' w3.heap.size (xs.take q ++ (xs.drop q).take (tt - q)) ∧ wr.grownBy w' (some w3.heap.size)) :=
            write_calls hH hmid (fun _ ad had => (by injection had with had; subst had; show bb ≠ _; omega)) (by rw [← List.length_append, HTK.out, List.length_take]; omega) ((unhide HT3).k.below hx) (by have := (unhide HT3).ltK; omega)
          have hxz := hx.size
          have hq0 : (0 : Int) ≤ (q : Int) := by omega
          have hqto : (q : Int) ≤ (tt : Int) := by omega
          have htc : (tt : Int) ≤ (cb : Int) := by omega
          have hcq : ¬ cb - q = 0 := by omega
          clear hmid hXx hlen
          rcases hto3 with ⟨hp, hte⟩ | ⟨hp, hte⟩
          · have hpI : (p : Int) < (nb : Int) - (q : Int) := by omega
            have hteI : (q : Int) + (p : Int) = (tt : Int) := by omega
            have HTE := hide hte
            clear hte hp
            go_wp2_with (go_at_call 19; refine (unhide HW).mono ?_; rintro e w6 ⟨⟨v6, rfl⟩, hH6, hg6⟩)
            go_roundw
            case rel => exact ⟨tt, by omega, rfl, by rw [← HTK.out]; exact hH6, hx.grown hg6 hxz (fun j hj => by injection hj with hj; omega)⟩
            case measure => simp [intOf]; omega
          · have hpI : ¬ (p : Int) < (nb : Int) - (q : Int) := by omega
            subst hte
            go_wp2_with (go_at_call 19; refine (unhide HW).mono ?_; rintro e w6 ⟨⟨v6, rfl⟩, hH6, hg6⟩)
            go_roundw
            case rel => exact ⟨tt, by omega, rfl, by rw [← HTK.out]; exact hH6, hx.grown hg6 hxz (fun j hj => by injection hj with hj; omega)⟩
            case measure => simp [intOf]; omega
        · have hqe : q = nb := by omega
          have he : xs.take q = xs := List.take_of_length_le (by rw [← HNB.out]; omega)
          rw [he] at hH
          have hRx := ((unhide HR3).below hx).range
          have HR : Hid (∀ W, Below wr.heap.size wr W → (Below wr.heap.size wr W ∧ W.rangeAt w2.heap.size 0 KV)) := fun W hW => ⟨hW, range_below hRx hW⟩
          have HK4 : Hid (∀ W, Below wr.heap.size wr W → Calls Tryd.prog 22 #[.pointer (some ⟨w3.heap.size, 0, none⟩)] W fun e w' => e = .returned (.agg KV.toArray) ∧ Below W.heap.size W w') := fun W hW => unhide HKY W _ (hH.below hW) (((unhide HT3).k.below hx).below hW)
          have HLN : Hid (∀ W, Below wr.heap.size wr W → Calls Tryd.prog 20 #[.pointer (some ⟨w3.heap.size, 0, none⟩)] W fun e w' => e = .returned (.int .i64 (nb : Int)) ∧ w' = W) := fun W hW => by
            rw [HNB.out]
            exact len_calls (hH.below hW)
          clear hqe he hH hRx
          go_wp2_with fail
          go_region_held3 (fun W => Below wr.heap.size wr W ∧ W.rangeAt w2.heap.size 0 KV)
            ((refine unhide HR _ ?_; repeat (first | assumption | exact Below.refl _ _ | refine Below.drew ?_ | exact lit_below _ _)))
            (first
              | (go_at_call 22; refine (unhide HK4 _ (by repeat (first | assumption | exact Below.refl _ _ | refine Below.drew ?_))).mono ?_; rintro e w5 ⟨rfl, hb5⟩; have hB5 : Below wr.heap.size wr w5 := below_drew hb5)
              | (go_at_call 20; refine (unhide HLN _ (by repeat (first | assumption | exact Below.refl _ _ | refine Below.drew ?_))).mono ?_; rintro e w7 ⟨rfl, hw7⟩; obtain rfl := hw7.symm))
          go_wp2
          go_ret
          exact ⟨rfl, below_then (below_then (unhide HB3) hx) (by repeat (first | assumption | exact Below.refl _ _ | refine Below.drew ?_))⟩
end Go.Proofs.YtmnmnepiikeomaaDoor
