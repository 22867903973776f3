/- A desk: Back, Wipe. -/
import Derived.Test.YtmfpkoegpoboiabDoorLend
import Derived.Laws.BitsAllLaws
namespace Go.Proofs.YtmfpkoegpoboiabDoor
open Go.RowKit

theorem lentL_len {bs : List Int} {R : Nat} (h : bs.length ≤ R) : (lentL bs R).length = R := by simp [lentL]; omega
theorem lentL_at {bs : List Int} {R j : Nat} (h : bs.length ≤ j) (hj : j < R) : (lentL bs R)[j]? = some (md j) := by
  unfold lentL
  rw [List.getElem?_append_right h, List.getElem?_drop, List.getElem?_map, List.getElem?_range (by omega)]
  simp
  congr 1
  omega
theorem Own8.room {w : World} {B g R c : Nat} {xs : List Int} (h : Own8 w B (.slice (some ⟨g, 0, none⟩) R c) xs) : R = xs.length ∧ R ≤ c ∧ c ≤ 9223372036854775807 ∧ g < w.heap.size := by
  rcases h.1.2 with ⟨hh, _⟩ | ⟨g3, cap, cur, hh, _, hg3, h1, h2, _⟩
  · cases hh
  · injection hh with e1 e2 e3
    injection e1 with e1
    injection e1 with e1
    subst e1 e3
    exact ⟨e2, by omega, by simpa [maxLen] using h2, (Array.getElem?_eq_some_iff.1 hg3).1⟩
set_option maxRecDepth 100000 in
set_option maxHeartbeats 4000000 in
theorem back_calls {w : World} {B g g2 R c : Nat} {vb : Value} {bs : List Int} (h : Dk w B g (.slice (some ⟨g2, 0, none⟩) R c) (lentL bs R) bs.length) (hbR : bs.length ≤ R) (hvb : IsB w vb bs) :
    Calls Tryd.prog 26 #[.pointer (some ⟨g, 0, none⟩), vb] w fun e w' => e = .returned (.bool true) ∧ Below w.heap.size w w' := by
  obtain ⟨av, nv, cv, rfl⟩ := hvb.shape
  have hnv := hvb.lenEq
  obtain ⟨hRl, hRc, hcm, hg2w⟩ := h.own.room
  have hbig := h.big
  rw [← hRl] at hbig
  have hglt : g < w.heap.size := (Array.getElem?_eq_some_iff.1 h.blk).1
  have hblk := h.blk
  rw [← hnv] at hblk hbR
  have hsame : IsB w (.slice (some ⟨g2, 0, none⟩) nv c) bs := by
    have hi := h.own.isB
    by_cases h0 : 0 < R
    · have := IsB.first hi (k := nv) hbR h0
      rwa [show (lentL bs R).take nv = bs by rw [hnv]; unfold lentL; exact List.take_left] at this
    · have hb0 : bs = [] := List.eq_nil_of_length_eq_zero (by omega)
      subst hb0
      refine ⟨by simp, some ⟨g2, 0, none⟩, c, by rw [hnv], by simp, hcm, (fun h => by cases h), fun hp => by simp at hp⟩
  have HB : Hid (∀ W, Below w.heap.size w W → Below w.heap.size w W ∧ W.cell? ⟨g, 0, none⟩ = some (.slice (some ⟨g2, 0, none⟩) R c) ∧ W.cell? ⟨g, 1, none⟩ = some (.int .i64 (nv : Int))) := fun W hW => by
    have e : W.heap[g]? = some (.cells #[.slice (some ⟨g2, 0, none⟩) R c, .int .i64 (nv : Int)] 53 (0, 0)) := by rw [hW.block g hglt]; exact hblk
    exact ⟨hW, cell_of_row W g 0 _ _ _ e, by rw [cell_of_row W g 1 _ _ _ e]; rfl⟩
  have HSM : Hid (∀ W, Below w.heap.size w W → Calls Tryd.prog 23 #[.slice (some ⟨g2, 0, none⟩) nv c, .slice av nv cv] W fun e w' => e = .returned (.bool true) ∧ w' = W) := fun W hW => by
    have := same_calls (hsame.below hW) (hvb.below hW)
    rwa [decide_eq_true rfl] at this
  have HJ : Hid (∀ W, Below w.heap.size w W → ∀ j, nv ≤ j → j < R → W.cell? ⟨g2, j, none⟩ = some (.int .u8 (md j))) := fun W hW j h1 h2 => by
    rw [hW.cell (p := ⟨g2, j, none⟩) hg2w, h.own.row.cellAt (by rw [List.length_map, ← hRl]; exact h2), List.getElem?_map, lentL_at (by omega) h2]
    rfl
  have hc0 := ((unhide HB) w (Below.refl _ _)).2.1
  have hc1 := ((unhide HB) w (Below.refl _ _)).2.2
  have hnvc : nv ≤ c := Nat.le_trans hbR hRc
  have hnvi : (nv : Int) ≤ (c : Int) := by omega
  clear h hnv hvb hsame hblk hRl
  go_enter Tryd.func26, Tryd.ntmps26
  go_wp2_with fail
  focus (go_region_held3 (fun W => Below w.heap.size w W ∧ W.cell? ⟨g, 0, none⟩ = some (.slice (some ⟨g2, 0, none⟩) R c) ∧ W.cell? ⟨g, 1, none⟩ = some (.int .i64 (nv : Int)))
    ((refine unhide HB _ ?_; repeat (first | assumption | exact Below.refl _ _ | refine Below.drew ?_)))
    (first
      | (go_at_call 23; refine (unhide HSM _ (Below.drew (Below.refl _ _))).mono ?_; rintro e w2 ⟨rfl, hw2⟩; obtain rfl := hw2.symm)))
  go_wp2
  go_loopw [5] (fun jv W => ∃ (j : Nat), nv ≤ j ∧ j ≤ R ∧ jv = .int .i64 (j : Int) ∧ Below w.heap.size w W) (fun j _ => R - (intOf j).toNat)
  case atStart => exact ⟨nv, by omega, by omega, rfl, (Below.refl _ _).drew⟩
  case round =>
    clear hc0 hc1
    obtain ⟨j, hj1, hj2, rfl, hb⟩ := hrel
    have hc0 := (unhide HB wr hb).2.1
    by_cases hlt : j < R
    · have hcj := unhide HJ wr hb j hj1 hlt
      have HSS : Hid (∀ W, Below wr.heap.size wr W → Below wr.heap.size wr W ∧ W.cell? ⟨g, 0, none⟩ = some (.slice (some ⟨g2, 0, none⟩) R c) ∧ W.cell? ⟨g2, j, none⟩ = some (.int .u8 (md j))) := fun W hW =>
        ⟨hW, (hW.cell (p := ⟨g, 0, none⟩) (World.block_lt_of_cell? _ _ hc0)).trans hc0, (hW.cell (p := ⟨g2, j, none⟩) (World.block_lt_of_cell? _ _ hcj)).trans hcj⟩
      have HMK : Hid (∀ W : World, Calls Tryd.prog 36 #[.int .i64 (j : Int)] W fun e w' => e = .returned (.int .u8 (md j)) ∧ w' = W) := fun W => mark_calls j W (by omega)
      go_wp2_with fail
      focus (go_region_held3 (fun W => Below wr.heap.size wr W ∧ W.cell? ⟨g, 0, none⟩ = some (.slice (some ⟨g2, 0, none⟩) R c) ∧ W.cell? ⟨g2, j, none⟩ = some (.int .u8 (md j)))
        ((refine unhide HSS _ ?_; repeat (first | assumption | exact Below.refl _ _ | refine Below.drew ?_)))
        (first
          | (go_at_call 36; refine (unhide HMK _).mono ?_; rintro e w2 ⟨rfl, hw2⟩; obtain rfl := hw2.symm)))
      go_wp2
      go_roundw
      case rel => exact ⟨j + 1, by omega, by omega, by go_num, hb.drew⟩
      case measure => simp [intOf]; omega
    · go_wp2
      go_ret
      exact ⟨rfl, hb⟩

theorem xor_byte (x : Int) (h : 0 ≤ x ∧ x ≤ 255) : ∃ y : Int, bits .xor .u8 x 255 = y ∧ 0 ≤ y ∧ y ≤ 255 := by
  refine ⟨_, u8_xor x 255 h.1 (by omega) (by decide) (by decide), by omega, ?_⟩
  have : x.toNat ^^^ (255 : Int).toNat < 2 ^ 8 := Nat.xor_lt_two_pow (by omega) (by decide)
  omega
set_option maxRecDepth 100000 in
set_option maxHeartbeats 4000000 in
theorem wipe_calls {w : World} {B g g2 R c N : Nat} {xs : List Int} (h : Dk w B g (.slice (some ⟨g2, 0, none⟩) R c) xs N) :
    Calls Tryd.prog 27 #[.pointer (some ⟨g, 0, none⟩)] w fun e w' => (∃ r, e = .returned r) ∧ (∃ ys, Dk w' B g (.slice (some ⟨g2, 0, none⟩) R c) ys N) ∧ Kp (Off g (.slice (some ⟨g2, 0, none⟩) R c)) w w' := by
  obtain ⟨hRl, hRc, hcm, hg2w⟩ := h.own.room
  have hgne : g2 ≠ g := fun e => h.ne (by rw [e]; rfl)
  have hNR : N ≤ R := by have := h.len; omega
  have hbig := h.big
  rw [← hRl] at hbig
  have hglt : g < w.heap.size := (Array.getElem?_eq_some_iff.1 h.blk).1
  have HB : Hid (∀ W, w.grownBy W (some g2) → W.heap[g]? = some (.cells #[.slice (some ⟨g2, 0, none⟩) R c, .int .i64 (N : Int)] 53 (0, 0)) ∧ W.cell? ⟨g, 0, none⟩ = some (.slice (some ⟨g2, 0, none⟩) R c) ∧ W.cell? ⟨g, 1, none⟩ = some (.int .i64 (N : Int))) := fun W hW => by
    have e : W.heap[g]? = some (.cells #[.slice (some ⟨g2, 0, none⟩) R c, .int .i64 (N : Int)] 53 (0, 0)) := by rw [hW.block g hglt (by simpa using hgne.symm)]; exact h.blk
    exact ⟨e, cell_of_row W g 0 _ _ _ e, by rw [cell_of_row W g 1 _ _ _ e]; rfl⟩
  have HO := hide h.own
  have HRL := hide hRl
  clear h hRl
  go_enter Tryd.func27, Tryd.ntmps27
  go_wp2
  go_loopw [2] (fun jv W => ∃ (j : Nat) (ys : List Int), j ≤ N ∧ jv = .int .i64 (j : Int) ∧ Own8 W B (.slice (some ⟨g2, 0, none⟩) R c) ys ∧ w.grownBy W (some g2)) (fun j _ => N - (intOf j).toNat)
  case atStart => exact ⟨0, xs, by omega, rfl, HO.out, grown_refl _ _⟩
  case round =>
    obtain ⟨j, ys, hj, rfl, ho, hgr⟩ := hrel
    obtain ⟨hbk, hc0, hc1⟩ := unhide HB wr hgr
    by_cases hlt : j < N
    · have hyl := ho.room.1
      have hjR : j < R := by omega
      have hjRi : (j : Int) < (R : Int) := by omega
      obtain ⟨x, hx⟩ : ∃ x, ys[j]? = some x := ⟨_, List.getElem?_eq_getElem (by omega)⟩
      have hxb := ho.2 x (List.mem_of_getElem? hx)
      obtain ⟨y, hxor, hyb⟩ := xor_byte x hxb
      have hcj : wr.cell? ⟨g2, j, none⟩ = some (.int .u8 x) := by
        rw [ho.row.cellAt (by rw [List.length_map]; omega), List.getElem?_map, hx]; rfl
      have hfr := ho.row.frozenAt j
      have hst := ho.row.set j (.int .u8 y)
      rw [← List.map_set] at hst
      have HST := hide hst
      have HYB := hide hyb
      have HYS := hide ho.2
      clear hst hyl hx hxb ho hyb
      go_wp2_with fail
      go_region
      go_wp2
      go_roundw
      case rel =>
        obtain ⟨hs1, hs2⟩ := HST.out
        refine ⟨j + 1, ys.set j y, by omega, by go_num, Row.own8 (World.ownsRow.drew hs1) (fun z hz => ?_), grown_drew (hgr.trans hs2)⟩
        rcases List.mem_or_eq_of_mem_set hz with hz | rfl
        · exact HYS.out z hz
        · exact HYB.out
      case measure => simp [intOf]; omega
    · go_wp2
      refine bodyPost_end (results_none rfl _ _ _) rfl ⟨⟨_, rfl⟩, ⟨ys, hbk, ho, by have := ho.room.1; omega, by have := ho.room.1; omega⟩, (Kp.refl _ _).grown hgr fun k hk ho2 => ?_⟩
      injection hk with hk
      subst hk
      exact ho2.2 rfl
end Go.Proofs.YtmfpkoegpoboiabDoor
