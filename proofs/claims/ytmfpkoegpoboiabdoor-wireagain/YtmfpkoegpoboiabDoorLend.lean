/- A desk: Lend. -/
import Derived.Test.YtmfpkoegpoboiabDoorDesk
namespace Go.Proofs.YtmfpkoegpoboiabDoor
open Go.RowKit

def mdv (i : Nat) : Value := .int .u8 (md i)
theorem Kp.grown' {A : Nat → Prop} {a w w' : World} {row : Option Nat} (h : Kp A a w) (hg : w.grownBy w' row) (hr : ∀ k, row = some k → ¬ A k ∨ a.heap.size ≤ k) : Kp A a w' :=
  ⟨hg.os.trans h.os, hg.tape.trans h.tape, hg.output.trans h.output, Nat.le_trans h.size hg.size, fun k hk ho => (hg.block k (Nat.lt_of_lt_of_le hk h.size) (fun e => by
    rcases hr k e.symm with h1 | h1
    · exact h1 ho
    · omega)).trans (h.block k hk ho)⟩
/-- A desk: its room, and how much of it is lent. -/
structure Dk (w : World) (B g : Nat) (room : Value) (xs : List Int) (N : Nat) : Prop where
  blk : w.heap[g]? = some (.cells #[room, .int .i64 (N : Int)] 53 (0, 0))
  own : Own8 w B room xs
  len : N ≤ xs.length
  big : xs.length ≤ 281474976710656
theorem Dk.ne {w : World} {B g N : Nat} {room : Value} {xs : List Int} (h : Dk w B g room xs N) : room.ownBlock ≠ some g := fun e => by
  rcases h.own.1.2 with ⟨rfl, _⟩ | ⟨g2, cap, cur, rfl, _, hg, _⟩
  · simp [Value.ownBlock] at e
  · simp only [Value.ownBlock, Option.some.injEq] at e
    subst e
    have := h.blk
    rw [hg] at this
    simp only [Option.some.injEq, Obj.cells.injEq] at this
    exact absurd this.2.1 (by decide)
/-- The blocks that are no part of the desk. -/
def Off (g : Nat) (room : Value) (k : Nat) : Prop := k ≠ g ∧ room.ownBlock ≠ some k
set_option maxRecDepth 100000 in
set_option maxHeartbeats 4000000 in
theorem lend_calls {w : World} {B g N : Nat} {room vb : Value} {xs bs : List Int} (h : Dk w B g room xs N) (hB : B ≤ w.heap.size) (hvb : ∀ W, Kp (Off g room) w W → IsB W vb bs) (hl : bs.length ≤ 140737488351232) :
    Calls Tryd.prog 24 #[.pointer (some ⟨g, 0, none⟩), vb] w fun e w' => ∃ g2 R c, e = .returned (.slice (some ⟨g2, 0, none⟩) bs.length c) ∧ Dk w' B g (.slice (some ⟨g2, 0, none⟩) R c) (lentL bs R) bs.length ∧ bs.length ≤ R ∧ (room.ownBlock = some g2 ∨ w.heap.size ≤ g2) ∧ Kp (Off g room) w w' := by
  obtain ⟨i0, hi, hz0, hz1, hz2⟩ := info_parts info8
  obtain ⟨ar, nr, cr, rfl⟩ := h.own.isB.shape
  have hnr := h.own.isB.lenEq
  obtain ⟨av, nv, cv, rfl⟩ := (hvb w (Kp.refl _ _)).shape
  have hnv := (hvb w (Kp.refl _ _)).lenEq
  have hbig := h.big
  have hc0 : w.cell? ⟨g, 0, none⟩ = some (.slice ar nr cr) := cell_of_row w g 0 _ _ _ h.blk
  have hf0 : w.frozen? ⟨g, 0, none⟩ = false := frozen_of_row w g 0 _ _ h.blk
  rw [← hnr] at hbig
  rw [← hnv] at hl ⊢
  have HNV := hide hnv
  have HNR := hide hnr
  have H := hide h
  have HVB := hide hvb
  have hglt : g < w.heap.size := (Array.getElem?_eq_some_iff.1 h.blk).1
  have HG : Hid (∀ w1, w.grownBy w1 none → w1.heap[g]? = some (.cells #[.slice ar nr cr, .int .i64 (N : Int)] 53 (0, 0)) ∧ w1.cell? ⟨g, 0, none⟩ = some (.slice ar nr cr) ∧ w1.frozen? ⟨g, 0, none⟩ = false) := fun w1 hg => by
    have e : w1.heap[g]? = some (.cells #[.slice ar nr cr, .int .i64 (N : Int)] 53 (0, 0)) := by rw [hg.block g hglt (by simp)]; exact h.blk
    exact ⟨e, cell_of_row w1 g 0 _ _ _ e, frozen_of_row w1 g 0 _ _ e⟩
  clear h hvb hnr hnv
  go_enter Tryd.func24, Tryd.ntmps24
  go_upto_if 15 with fail
  go_cut [4] (fun a wc => a = .slice none 0 0 ∧ ∃ g2 R c ys, wc.heap[g]? = some (.cells #[.slice (some ⟨g2, 0, none⟩) R c, .int .i64 (N : Int)] 53 (0, 0)) ∧ Row wc B 5 (.slice (some ⟨g2, 0, none⟩) R c) ys ∧ ys.length = R ∧ 2 * nv + 70 ≤ R ∧ R ≤ 281474976710656 ∧ ((Value.slice ar nr cr).ownBlock = some g2 ∨ w.heap.size ≤ g2) ∧ Kp (Off g (.slice ar nr cr)) w wc)
  case first =>
    by_cases hlt : nr < 2 * nv + 70
    · go_wp2_with (at_make; refine wpList_make_full _ rfl _ _ 23 rfl w.heap.size 5 i0 (.int .u8 0) 1 Tryd.underlying23 hi hz0 hz1 .i64 .i64 _ _ (2 * nv + 512) rfl rfl (by omega) (by omega) (by rw [hz2]; omega) (by unfold maxLen; omega) (Nat.le_refl _) ?_; intro w1 hown hgrow; obtain ⟨hb1, hc1, hf1⟩ := unhide HG w1 hgrow)
      go_meet
      have hs := grown_set1 w1 g 0 (.slice (some ⟨w.heap.size, 0, none⟩) (2 * nv + 512) (2 * nv + 512))
      have hrow : Row w1 w.heap.size 5 (.slice (some ⟨w.heap.size, 0, none⟩) (2 * nv + 512) (2 * nv + 512)) (List.replicate (2 * nv + 512) (.int .u8 0)) := by
        unfold Row
        rw [List.length_replicate]
        rw [made8] at hown
        exact hown
      refine ⟨rfl, w.heap.size, 2 * nv + 512, 2 * nv + 512, _, heap_setCell_same w1 g 0 _ _ _ hb1, (hrow.kept hs (Or.inr (by simp [Value.ownBlock]; omega))).mono hB, by simp, by omega, by omega, Or.inr (Nat.le_refl _), ?_⟩
      exact ((Kp.refl _ _).grown hgrow (fun k hk => by cases hk)).grown hs (fun k hk ha => by injection hk with hk; exact ha.1 hk.symm)
    · go_wp2
      go_meet
      obtain ⟨g2, c2, hv, _, _⟩ := (unhide H).own.row.head (by rw [List.length_map, ← HNR.out]; omega)
      rw [List.length_map, ← HNR.out] at hv
      have hh := H.out
      rw [hv] at hh ⊢
      exact ⟨rfl, g2, nr, c2, _, hh.blk, hh.own.row, by rw [List.length_map, ← HNR.out], by omega, hbig, Or.inl rfl, Kp.refl _ _⟩
  case rest =>
    obtain ⟨rfl, g2, R, c, ys, hbk, hrow, hyl, hR1, hR2, hloc, hkp⟩ := hcut
    have HYL := hide hyl
    have HBK := hide hbk
    have hgw : g < wc.heap.size := Nat.lt_of_lt_of_le hglt hkp.size
    obtain ⟨_, _, hvv, hRc, hcm, _, hg2w⟩ := hrow.head (by omega)
    injection hvv with e1 e2 e3
    injection e1 with e1
    injection e1 with e1
    subst e1 e3
    rw [hyl] at hRc
    have hgne : g2 ≠ g := fun e => by
      subst e
      rcases hrow.2 with ⟨hh, _⟩ | ⟨g3, cap, cur, hh, _, hg3, _⟩
      · cases hh
      · injection hh with h1 h2 h3
        injection h1 with h1
        injection h1 with h1
        subst h1
        rw [hg3] at hbk
        simp only [Option.some.injEq, Obj.cells.injEq] at hbk
        exact absurd hbk.2.1 (by decide)
    have HGB : Hid (∀ W, wc.grownBy W (some g2) → W.heap[g]? = some (.cells #[.slice (some ⟨g2, 0, none⟩) R c, .int .i64 (N : Int)] 53 (0, 0)) ∧ W.cell? ⟨g, 0, none⟩ = some (.slice (some ⟨g2, 0, none⟩) R c) ∧ W.cell? ⟨g, 1, none⟩ = some (.int .i64 (N : Int)) ∧ W.frozen? ⟨g, 1, none⟩ = false) := fun W hW => by
      have e : W.heap[g]? = some (.cells #[.slice (some ⟨g2, 0, none⟩) R c, .int .i64 (N : Int)] 53 (0, 0)) := by rw [hW.block g hgw (by simpa using hgne.symm)]; exact hbk
      exact ⟨e, cell_of_row W g 0 _ _ _ e, by rw [cell_of_row W g 1 _ _ _ e]; rfl, frozen_of_row W g 1 _ _ e⟩
    clear hyl hbk hc0 hf0 e2
    go_wp2
    go_loopw [5] (fun jv W => ∃ (j : Nat), j ≤ R ∧ jv = .int .i64 (j : Int) ∧ Row W B 5 (.slice (some ⟨g2, 0, none⟩) R c) ((List.range j).map mdv ++ ys.drop j) ∧ wc.grownBy W (some g2)) (fun j _ => R - (intOf j).toNat)
    case atStart => exact ⟨0, by omega, rfl, by simpa using hrow, grown_refl _ _⟩
    case round =>
      clear hrow
      obtain ⟨j, hj, rfl, hr, hgr⟩ := hrel
      obtain ⟨hbk, hcg, hc1, hfg⟩ := unhide HGB wr hgr
      have hlen : ((List.range j).map mdv ++ ys.drop j).length = R := by simp [HYL.out]; omega
      by_cases hlt : j < R
      · have hfr := hr.frozenAt j
        have hst := hr.set j (mdv j)
        rw [fill_set mdv (by rw [HYL.out]; exact hlt)] at hst
        have hold : wr.cell? ⟨g2, j, none⟩ = ((List.range j).map mdv ++ ys.drop j)[j]? := hr.cellAt (by rw [hlen]; exact hlt)
        obtain ⟨old, hold2⟩ : ∃ old, ((List.range j).map mdv ++ ys.drop j)[j]? = some old := ⟨_, List.getElem?_eq_getElem (by rw [hlen]; exact hlt)⟩
        rw [hold2] at hold
        have HST := hide hst
        have HMK : Hid (∀ W : World, Calls Tryd.prog 36 #[.int .i64 (j : Int)] W fun e w' => e = .returned (.int .u8 (md j)) ∧ w' = W) := fun W => mark_calls j W (by omega)
        have HCS : Hid (∀ v : Value, (wr.setCell ⟨g2, j, none⟩ v).drew.cell? ⟨g, 0, none⟩ = some (.slice (some ⟨g2, 0, none⟩) R c)) := fun v => by
          have e : (wr.setCell ⟨g2, j, none⟩ v).drew.cell? ⟨g, 0, none⟩ = wr.cell? ⟨g, 0, none⟩ := World.cell?_of_block (w := wr) (heap_setCell_other wr ⟨g2, j, none⟩ g v (fun e => hgne e.symm))
          rw [e]; exact hcg
        clear hst hold2 hr hlen
        go_wp2_with fail
        focus (go_region_held3 (fun W => W.cell? ⟨g, 0, none⟩ = some (.slice (some ⟨g2, 0, none⟩) R c))
          (first | assumption | exact hcg | exact unhide HCS _)
          (first
            | (go_at_call 36; refine (unhide HMK _).mono ?_; rintro e w2 ⟨rfl, hw2⟩; obtain rfl := hw2.symm)))
        go_wp2
        go_roundw
        case rel =>
          rw [show Value.int .u8 (md j) = mdv j from rfl]
          obtain ⟨hs1, hs2⟩ := HST.out
          exact ⟨j + 1, by omega, by go_num, World.ownsRow.drew hs1, grown_drew (hgr.trans hs2)⟩
        case measure => simp [intOf]; omega
      · have hkr : Kp (Off g (.slice ar nr cr)) w wr := hkp.grown' hgr fun k hk => by
          injection hk with hk
          subst hk
          rcases hloc with h | h
          · exact Or.inl fun ho => ho.2 h
          · exact Or.inr h
        have hbI := unhide HVB wr hkr
        have hje : j = R := by omega
        have hr2 : Row wr B 5 (.slice (some ⟨g2, 0, none⟩) R c) ((List.range R).map mdv) := by
          rw [hje, List.drop_of_length_le (by rw [HYL.out]; exact Nat.le_refl _), List.append_nil] at hr
          exact hr
        have HR2 := hide hr2
        have HBI := hide hbI
        have HKR := hide hkr
        clear hr hr2 hbI hje hlen hkr
        go_wp2_with (refine wpList_copyRow rfl _ _ rfl rfl rfl (unhide HR2) (unhide HBI) (by rw [← HNV.out]; omega) ?_; intro w3 hr3 hg3; obtain ⟨hbk3, hcg3, hc13, hfg3⟩ := unhide HGB w3 (hgr.trans hg3))
        have hs := grown_set1 w3 g 1 (.int .i64 (nv : Int))
        have hbk4 := heap_setCell_same w3 g 1 _ _ (.int .i64 (nv : Int)) hbk3
        have e3 : bs.map (Value.int .u8) ++ ((List.range R).map mdv).drop bs.length = (lentL bs R).map (Value.int .u8) := by
          unfold lentL
          rw [List.map_append, List.map_drop, List.map_map]
          rfl
        rw [e3] at hr3
        have hr4 := hr3.kept hs (Or.inr (by simp [Value.ownBlock]; exact hgne))
        have hll : (lentL bs R).length = R := by
          have := HNV.out
          simp [lentL]; omega
        have hmem : ∀ x ∈ lentL bs R, 0 ≤ x ∧ x ≤ 255 := fun x hx => by
          rcases List.mem_append.1 hx with hx | hx
          · exact (unhide HBI).mem x hx
          · obtain ⟨i, _, rfl⟩ := List.mem_map.1 (List.mem_of_mem_drop hx)
            exact md_byte i
        have hkf := ((unhide HKR).grown' hg3 (fun k hk => by
          injection hk with hk
          subst hk
          rcases hloc with h | h
          · exact Or.inl fun ho => ho.2 h
          · exact Or.inr h)).grown' hs (fun k hk => by injection hk with hk; exact Or.inl fun ho => ho.1 hk.symm)
        go_ret
        exact ⟨g2, R, c, rfl, ⟨hbk4, hr4.own8 hmem, by rw [hll]; omega, by rw [hll]; exact hR2⟩, by omega, hloc, hkf⟩
end Go.Proofs.YtmfpkoegpoboiabDoor
