/- last, tells and lasts. -/
import Derived.Test.YtfgjhlnaaopdeabOtB
import Derived.Test.YtfgjhlnaaopdeabDkH
namespace Go.Proofs.Ytfgjhlnaaopdeab
open Go.RowKit Go.Maps

/-- What is read is the last of the writes; what lasts is the last of the writes. -/
def Nw (D : AD) (L : Ats) : Prop := ∀ i, i < D.la.length → D.now i = lastOf L (i : Int)
def Ls (D : AD) (L : Ats) : Prop := ∀ i, i < D.la.length → D.la.getD i zsec = lastOf L (i : Int)
theorem now_write (D : AD) (i j : Nat) (s : List Int) : (D.write i s).now j = if j = i then s else D.now j := by
  unfold AD.now AD.write
  by_cases e : j = i
  · subst e; simp [updF_same]
  · simp only [updF_other _ _ e, if_neg e]
theorem Nw.write {D : AD} {L : Ats} (h : Nw D L) (i : Nat) (s : List Int) : Nw (D.write i s) (L ++ [((i : Int), s)]) := by
  intro j hj
  rw [now_write, lastOf_snoc]
  by_cases e : j = i
  · rw [if_pos e, if_pos (show ((j : Nat) : Int) = (i : Int) by omega)]
  · rw [if_neg e, if_neg (show ¬ ((j : Nat) : Int) = (i : Int) by omega)]
    exact h j hj
theorem Ls.write {D : AD} {L : Ats} (h : Ls D L) (i : Nat) (s : List Int) : Ls (D.write i s) L := h
theorem flush_len (D : AD) : D.flush.la.length = D.la.length := AD.laAfter_len D _ _
theorem now_empty {D : AD} (h : ∀ i, D.wr i = []) (i : Nat) : D.now i = D.la.getD i zsec := by unfold AD.now; rw [h i]; rfl
theorem Nw.flush {D : AD} {L : Ats} (h : Nw D L) (hw : ∀ i, (D.wr i).length < 9223372036854775807) : Nw D.flush L := by
  intro i hi
  rw [now_empty (fun _ => rfl)]
  rw [flush_len] at hi
  rw [AD.flush_at D hi (hw i)]
  exact h i hi
theorem Ls.flush {D : AD} {L : Ats} (h : Nw D L) (hw : ∀ i, (D.wr i).length < 9223372036854775807) : Ls D.flush L := by
  intro i hi
  rw [flush_len] at hi
  rw [AD.flush_at D hi (hw i)]
  exact h i hi
theorem Nw.zero (n : Nat) : Nw (zeroD n) [] := by
  intro i hi
  have hi' : i < n := by simpa [zeroD] using hi
  rw [now_empty (fun _ => rfl)]
  show (List.replicate n zsec).getD i zsec = zsec
  rw [List.getD_eq_getElem?_getD, List.getElem?_replicate, if_pos hi']
  rfl
theorem Ls.zero (n : Nat) : Ls (zeroD n) [] := by
  intro i hi
  have hi' : i < n := by simpa [zeroD] using hi
  show (List.replicate n zsec).getD i zsec = zsec
  rw [List.getD_eq_getElem?_getD, List.getElem?_replicate, if_pos hi']
  rfl
set_option maxRecDepth 100000 in
set_option maxHeartbeats 2000000 in
theorem last_calls {w : World} {v : Value} {l : Ats} {i f : Nat} (h : IsWs w v l) (hf : f ≤ l.length) :
    Calls Try.prog 36 #[v, .int .i64 (i : Int), .int .i64 (f : Int)] w fun e w' => ∃ u, e = .returned u ∧ IsB w' u (lastOf (l.take f) (i : Int)) ∧ Below w.heap.size w w' := by
  obtain ⟨a, c, rfl, hp⟩ := h.shape
  have HA := hide h
  have hlen : l.length ≤ 9223372036854775807 := by
    by_cases h0 : 0 < l.length
    · obtain ⟨g, _, h1, h2⟩ := hp h0; omega
    · omega
  have HLT := hide (fun k (hk : k < l.length) (x : Int) => lastOf_take hk x)
  obtain ⟨i0, hi, hz0, hz1, hz2⟩ := info_parts info8
  have HZB : Hid (∀ W, Arr W w.heap.size 5 (zsec.map (Value.int .u8)) → IsB W (.slice (some ⟨w.heap.size, 0, none⟩) 512 512) zsec) := fun W hW => by
    have := own8_arr hW (Nat.le_refl _) zsec_is.2 (by rw [zsec_is.1]; decide)
    rw [zsec_is.1] at this
    exact this.isB
  have HZE : Hid (List.replicate 512 (Value.int .u8 0) = zsec.map (Value.int .u8)) := by unfold zsec; rw [List.map_replicate]; exact rfl
  have HL0 : Hid (lastOf (l.take 0) (i : Int) = zsec) := by rw [List.take_zero]; exact lastOf_nil _
  clear h
  generalize hm : l.length = m at *
  have HM := hide hm
  clear hm
  go_enter Try.func36, Try.ntmps36
  go_wp2
  go_loop [7] (fun iv => ∃ k : Nat, k ≤ f ∧ iv = .int .i64 ((k : Int) - 1) ∧ Hid (lastOf (l.take f) (i : Int) = lastOf (l.take k) (i : Int))) (fun iv => (intOf iv + 1).toNat)
  case atStart => exact ⟨f, Nat.le_refl _, by go_num, hide rfl⟩
  case round =>
    obtain ⟨k, hk, rfl, hno⟩ := hrel
    by_cases h0 : k = 0
    · subst h0
      rw [HL0.out] at hno
      go_wp2_with (at_make; refine wpList_make_full _ rfl _ _ 23 rfl w.heap.size 5 i0 (.int .u8 0) 1 Try.underlying23 hi hz0 hz1 _ _ _ _ 512 rfl rfl rfl rfl (by omega) (by unfold maxLen; omega) (Nat.le_refl _) ?_; intro w1 hr1 hg1)
      rw [made8n] at hr1
      obtain ⟨hA1, _⟩ := arr_full hr1
      rw [HZE.out] at hA1
      have hB1 := below_none hg1
      go_ret
      exact ⟨_, rfl, by rw [hno.out]; exact unhide HZB w1 hA1, hB1⟩
    · obtain ⟨j, rfl⟩ : ∃ j, k = j + 1 := ⟨k - 1, by omega⟩
      obtain ⟨g, rfl, hle, hcm⟩ := hp (by omega)
      obtain ⟨u, hc1, hc2, hu⟩ := HA.out.elem (j := j) (by rw [HM.out]; omega)
      have hj1 : ((j + 1 : Nat) : Int) - 1 = (j : Int) := by omega
      rw [hj1]
      have hst := unhide HLT j (by omega) (i : Int)
      generalize hy : (l.getD j dA).1 = y at *
      by_cases he : (i : Int) = y
      · rw [if_pos he] at hst
        have HL : Hid (lastOf (l.take f) (i : Int) = (l.getD j dA).2) := hide (hno.out.trans hst)
        have HU := hide hu
        clear hu hno hy hst
        subst he
        go_wp2
        go_ret
        exact ⟨u, rfl, by rw [HL.out]; exact HU.out.isB, Below.refl _ _⟩
      · rw [if_neg he] at hst
        have HNO : Hid (lastOf (l.take f) (i : Int) = lastOf (l.take j) (i : Int)) := hide (hno.out.trans hst)
        have he2 : ¬ y = (i : Int) := fun e => he e.symm
        clear hno hy hu hst he
        go_wp2
        go_round
        case rel => exact ⟨j, by omega, by go_num, HNO⟩
        case measure => simp [intOf]
end Go.Proofs.Ytfgjhlnaaopdeab
