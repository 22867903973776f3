/- Slices of texts. -/
import Derived.Test.YtmogbkgchhplkabDoorPaParts
import Derived.Test.YtmogbkgchhplkabDoorPaL3
namespace Go.Proofs.YtmogbkgchhplkabDoor
open Go.RowKit

/-- The value is a slice of texts; in this world it reads the list. -/
def IsS (w : World) (v : Value) (l : List ByteArray) : Prop :=
  ∃ a c, v = .slice a l.length c ∧ l.length ≤ c ∧ c ≤ 9223372036854775807 ∧ (a = none → c = 0) ∧ (0 < l.length → ∃ b o, a = some ⟨b, o, none⟩ ∧ ∀ j, j < l.length → w.cell? ⟨b, o + j, none⟩ = some (.string (l.getD j default)))
theorem IsS.below {w w' : World} {v : Value} {l : List ByteArray} (h : IsS w v l) (hb : Below w.heap.size w w') : IsS w' v l := by
  obtain ⟨a, c, hv, hl, hm, hz, hc⟩ := h
  refine ⟨a, c, hv, hl, hm, hz, fun hp => ?_⟩
  obtain ⟨b, o, ha, hcell⟩ := hc hp
  exact ⟨b, o, ha, fun j hj => (hb.cell (p := ⟨b, o + j, none⟩) (World.block_lt_of_cell? w _ (hcell j hj))).trans (hcell j hj)⟩
theorem IsS.nil (w : World) : IsS w (.slice none 0 0) [] := ⟨none, 0, rfl, Nat.le_refl _, by decide, fun _ => rfl, fun h => absurd h (by simp)⟩
theorem Row.isS {w : World} {B : Nat} {v : Value} {l : List ByteArray} (h : Row w B 9 v (sV l)) : IsS w v l := by
  cases l with
  | nil =>
    obtain ⟨a, c, hv⟩ := h.shape
    obtain ⟨hl, hh⟩ := h
    rcases hh with ⟨rfl, h0⟩ | ⟨g, cap, cur, rfl, _, hg, hle, hm, hs, ht⟩
    · exact IsS.nil w
    · refine ⟨some ⟨g, 0, none⟩, cap, rfl, by simp, by simpa [maxLen] using hm, fun h => (by cases h), fun hp => absurd hp (by simp)⟩
  | cons x r =>
    obtain ⟨g, c, hv, h1, h2, _, _⟩ := h.head (by simp [sV])
    subst hv
    rw [sV_len] at h1
    refine ⟨some ⟨g, 0, none⟩, c, by rw [sV_len], h1, h2, fun h => (by cases h), fun _ => ⟨g, 0, rfl, fun j hj => ?_⟩⟩
    rw [Nat.zero_add, h.cellAt (by rw [sV_len]; exact hj)]
    unfold sV
    rw [List.getElem?_map, List.getD_eq_getElem?_getD, List.getElem?_eq_getElem hj]
    rfl
theorem isS_block {w : World} {g : Nat} {l : List ByteArray} (hl : l.length ≤ 9223372036854775807) (h : w.heap[g]? = some (.cells (l.map Value.string).toArray 9 (0, 0))) : IsS w (.slice (some ⟨g, 0, none⟩) l.length l.length) l := by
  refine ⟨some ⟨g, 0, none⟩, l.length, rfl, Nat.le_refl _, hl, fun h => (by cases h), fun _ => ⟨g, 0, rfl, fun j hj => ?_⟩⟩
  rw [cell_of_row w g (0 + j) _ _ _ h]
  simp [List.getElem?_map, List.getD_eq_getElem?_getD, List.getElem?_eq_getElem hj]
theorem strI_eq (x y : ByteArray) : (x.toList == y.toList) = decide (x = y) := str_eq x y
theorem strI_ne (x y : ByteArray) : (x.toList != y.toList) = !(decide (x = y)) := by
  show (!(x.toList == y.toList)) = _
  rw [str_eq]
theorem eq_step {a b : List ByteArray} {i : Nat} (h : a.getD i default ≠ b.getD i default) : a ≠ b := fun e => h (by rw [e])
theorem eq_all {a b : List ByteArray} (hl : a.length = b.length) (h : ∀ j, j < a.length → a.getD j default = b.getD j default) : a = b := by
  refine List.ext_getElem hl fun j h1 h2 => ?_
  have := h j h1
  rw [List.getD_eq_getElem?_getD, List.getD_eq_getElem?_getD, List.getElem?_eq_getElem h1, List.getElem?_eq_getElem h2] at this
  exact this
set_option maxRecDepth 100000 in
set_option maxHeartbeats 4000000 in
/-- The document's Same. -/
theorem same_calls {va vb : Value} {la lb : List ByteArray} {w : World} (ha : IsS w va la) (hb : IsS w vb lb) : Calls Tryd.prog 19 #[va, vb] w fun e w' => e = .returned (.bool (decide (la = lb))) ∧ Below w.heap.size w w' := by
  have HA := hide ha
  have HB := hide hb
  obtain ⟨aa, ca, rfl, hla, hma, _, hca⟩ := ha
  obtain ⟨ab, cb, rfl, hlb, hmb, _, hcb⟩ := hb
  obtain ⟨q, hq⟩ : ∃ q, q = decide (la = lb) := ⟨_, rfl⟩
  have HQ := hide hq
  rw [← hq]
  clear hq
  have HCA := hide hca
  have HCB := hide hcb
  clear hca hcb
  obtain ⟨n, hn⟩ : ∃ n, n = la.length := ⟨_, rfl⟩
  obtain ⟨m, hm⟩ : ∃ m, m = lb.length := ⟨_, rfl⟩
  rw [← hn] at hla
  rw [← hm] at hlb
  have HN := hide hn
  have HM := hide hm
  rw [← hn, ← hm]
  clear hn hm
  by_cases hnm : n = m
  · subst hnm
    go_enter Tryd.func19, Tryd.ntmps19
    go_wp2_with fail
    go_loopw [5] (fun iv W => ∃ (j : Nat), j ≤ n ∧ iv = .int .i64 (j : Int) ∧ Below w.heap.size w W ∧ Hid (∀ k, k < j → la.getD k default = lb.getD k default)) (fun i _ => n - (intOf i).toNat)
    case atStart => exact ⟨0, by omega, rfl, Below.refl _ _, fun k hk => absurd hk (by omega)⟩
    case round =>
      obtain ⟨j, hjn, rfl, hbw, HJ⟩ := hrel
      by_cases hlt : j < n
      · obtain ⟨b1, o1, rfl, hc1⟩ := unhide HCA (by rw [← HN.out]; omega)
        obtain ⟨b2, o2, rfl, hc2⟩ := unhide HCB (by rw [← HM.out]; omega)
        have hx := hc1 j (by rw [← HN.out]; exact hlt)
        have hy := hc2 j (by rw [← HM.out]; exact hlt)
        have hx2 := (hbw.cell (p := ⟨b1, o1 + j, none⟩) (World.block_lt_of_cell? w _ hx)).trans hx
        have hy2 := (hbw.cell (p := ⟨b2, o2 + j, none⟩) (World.block_lt_of_cell? w _ hy)).trans hy
        have hlti : (j : Int) < (n : Int) := by omega
        obtain ⟨x, hxe⟩ : ∃ x, x = la.getD j default := ⟨_, rfl⟩
        obtain ⟨y, hye⟩ : ∃ y, y = lb.getD j default := ⟨_, rfl⟩
        rw [← hxe] at hx hx2
        rw [← hye] at hy hy2
        have HX := hide hxe
        have HY := hide hye
        clear hxe hye hx hy hc1 hc2
        by_cases hxy : x = y
        · have HJ2 : Hid (∀ k, k < j + 1 → la.getD k default = lb.getD k default) := fun k hk => by
            by_cases e : k = j
            · subst e; rw [← HX.out, ← HY.out, hxy]
            · exact unhide HJ k (by omega)
          have hne : (x.toList == y.toList) = true := by rw [str_eq, decide_eq_true hxy]
          clear hxy
          go_wp2_with fail
          go_quiet (fail)
          go_wp2
          exact ⟨⟨j + 1, by omega, by go_num, hbw.trans ((drewn_below wr nq).mono hbw.size), HJ2⟩, by simp [intOf]; omega⟩
        · have HE : Hid (q = false) := by
            show _ = _
            rw [HQ.out, decide_eq_false (eq_step (i := j) (by rw [← HX.out, ← HY.out]; exact hxy))]
          have hne : (x.toList == y.toList) = false := by rw [str_eq, decide_eq_false hxy]
          clear hxy
          go_wp2_with fail
          go_quiet (fail)
          go_wp2
          go_ret
          exact ⟨by rw [HE.out]; rfl, hbw.trans ((drewn_below wr nq).mono hbw.size)⟩
      · have HE : Hid (q = true) := by
          show _ = _
          rw [HQ.out, decide_eq_true (eq_all (by rw [← HN.out, ← HM.out]) fun k hk => unhide HJ k (by rw [← HN.out] at hk; omega))]
        go_wp2
        go_ret
        exact ⟨by rw [HE.out]; rfl, hbw⟩
  · have HE : Hid (q = false) := by
      show _ = _
      rw [HQ.out, decide_eq_false fun e => hnm (by rw [HN.out, HM.out, e])]
    have hni : ((n : Int) != (m : Int)) = true := by simp; omega
    go_enter Tryd.func19, Tryd.ntmps19
    go_wp2
    go_ret
    exact ⟨by rw [HE.out]; rfl, Below.refl _ _⟩
end Go.Proofs.YtmogbkgchhplkabDoor
