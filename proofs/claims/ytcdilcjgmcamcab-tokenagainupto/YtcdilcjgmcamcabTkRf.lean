/- The document's Lines. -/
import Derived.Test.YtcdilcjgmcamcabTkLn
namespace Go.Proofs.Ytcdilcjgmcamcab
open Go.RowKit Go.Maps

theorem infoStr : (Try.prog.info? 9).map (fun i => (i.zero, i.size, i.bytes)) = some (some (.string ByteArray.empty), 1, 16) := by kernel_rfl
def sV (l : List (List UInt8)) : List Value := l.map fun x => Value.string (bs x)
theorem sV_len (l : List (List UInt8)) : (sV l).length = l.length := by simp [sV]
theorem sV_snoc (l : List (List UInt8)) (x : List UInt8) : sV (l ++ [x]) = sV l ++ [.string (bs x)] := by simp [sV]
theorem lines_len : ∀ (l : List UInt8), (linesL l).length ≤ l.length
  | [] => by simp [linesL]
  | c :: l => by
    have ih := lines_len l
    rw [linesL]
    split
    · simp; exact ih
    · cases h : linesL l with
      | nil => simp
      | cons x r => rw [h] at ih; simp at ih ⊢; omega
theorem lines_no : ∀ (t : List UInt8), ∀ l ∈ linesL t, ∀ c ∈ l, c.toNat ≠ 10
  | [], l, h => by simp [linesL] at h
  | d :: t, l, h => by
    have ih := lines_no t
    rw [linesL] at h
    by_cases hd : d = 10
    · rw [if_pos hd] at h
      rcases List.mem_cons.1 h with rfl | h
      · simp
      · exact ih l h
    · rw [if_neg hd] at h
      have hn : d.toNat ≠ 10 := fun e => hd (UInt8.toNat_inj.1 (by simpa using e))
      cases hl : linesL t with
      | nil =>
        rw [hl] at h
        simp only [List.mem_cons, List.not_mem_nil, or_false] at h
        subst h
        simp; exact hn
      | cons x r =>
        rw [hl] at h ih
        rcases List.mem_cons.1 h with rfl | h
        · intro c hc
          rcases List.mem_cons.1 hc with rfl | hc
          · exact hn
          · exact ih x (by simp) c hc
        · exact ih l (List.mem_cons_of_mem _ h)
/-- So many lines are whole; the next one begins at fr. -/
def Lns (s : ByteArray) (fr i : Nat) (acc : List (List UInt8)) : Prop := linesL s.data.toList = acc ++ linesL (s.data.toList.drop fr) ∧ ∀ k, fr ≤ k → k < i → (lk s k).toNat ≠ 10
theorem seg_no {s : ByteArray} {fr i : Nat} (hi : i ≤ s.size) (h : ∀ k, fr ≤ k → k < i → (lk s k).toNat ≠ 10) : ∀ c ∈ (s.data.toList.drop fr).take (i - fr), c.toNat ≠ 10 := by
  intro c hc
  obtain ⟨j, hj, rfl⟩ := List.getElem_of_mem hc
  have hj2 : j < i - fr := by rw [List.length_take] at hj; omega
  have hl : fr + j < s.data.toList.length := by rw [len_data]; omega
  have := h (fr + j) (by omega) (by omega)
  unfold lk at this
  rw [List.getD_eq_getElem?_getD, List.getElem?_eq_getElem hl] at this
  rw [List.getElem_take, List.getElem_drop]
  exact this
theorem Lns.more {s : ByteArray} {fr i : Nat} {acc : List (List UInt8)} (h : Lns s fr i acc) (hc : (lk s i).toNat ≠ 10) : Lns s fr (i + 1) acc :=
  ⟨h.1, fun k h1 h2 => by
    by_cases e : k = i
    · subst e; exact hc
    · exact h.2 k h1 (by omega)⟩
theorem Lns.next {s : ByteArray} {fr i : Nat} {acc : List (List UInt8)} (h : Lns s fr i acc) (hfi : fr ≤ i) (hi : i < s.size) (hc : (lk s i).toNat = 10) : Lns s (i + 1) (i + 1) (acc ++ [(s.data.toList.drop fr).take (i - fr)]) := by
  refine ⟨?_, fun k h1 h2 => by omega⟩
  have e : s.data.toList.drop fr = (s.data.toList.drop fr).take (i - fr) ++ 10 :: s.data.toList.drop (i + 1) := by
    conv => lhs; rw [← List.take_append_drop (i - fr) (s.data.toList.drop fr)]
    rw [List.drop_drop, show fr + (i - fr) = i by omega, lk_drop hi, show lk s i = 10 from UInt8.toNat_inj.1 (by simpa using hc)]
  rw [h.1, List.append_assoc]
  congr 1
  conv => lhs; rw [e]
  rw [lines_app _ _ (seg_no (by omega) h.2)]
  rfl
theorem Lns.last {s : ByteArray} {fr : Nat} {acc : List (List UInt8)} (h : Lns s fr s.size acc) (hf : fr < s.size) : linesL s.data.toList = acc ++ [s.data.toList.drop fr] := by
  rw [h.1, lines_one _ ?_ (by rw [lk_drop hf]; simp)]
  have := seg_no (Nat.le_refl _) h.2
  rw [List.take_of_length_le (by rw [List.length_drop, len_data]; omega)] at this
  exact this
set_option maxRecDepth 100000 in
set_option maxHeartbeats 4000000 in
theorem rlines_calls (s : ByteArray) (hs : s.size ≤ 1000000) (w : World) : Calls Try.prog 35 #[.string s] w fun e w' => ∃ v, e = .returned v ∧ Row w' w.heap.size 9 v (sV (linesL s.data.toList)) ∧ Below w.heap.size w w' := by
  obtain ⟨i0, hi, hz0, hz1, hz2⟩ := info_parts infoStr
  go_enter Try.func35, Try.ntmps35
  go_wp2_with fail
  go_loopw [3, 4, 5] (fun lv fv iv wr => ∃ (i fr : Nat) (acc : List (List UInt8)), i ≤ s.size ∧ fr ≤ i ∧ acc.length ≤ i ∧ fv = .int .i64 (fr : Int) ∧ iv = .int .i64 (i : Int) ∧ Row wr w.heap.size 9 lv (sV acc) ∧ Hid (Lns s fr i acc) ∧ Below w.heap.size w wr) (fun _ _ i _ => s.size - (intOf i).toNat)
  case atStart => exact ⟨0, 0, [], by omega, by omega, by simp, rfl, rfl, Row.nil _ _ _, ⟨rfl, fun k h1 h2 => by omega⟩, Below.refl _ _⟩
  case round =>
    obtain ⟨i, fr, acc, hil, hfr, hac, rfl, rfl, hrow, HA, hb⟩ := hrel
    have hsz := hb.size
    obtain ⟨al, cl, hvl⟩ := hrow.shape
    subst hvl
    have hal : (sV acc).length ≤ 1000000 := by rw [sV_len]; omega
    have HRW := hide hrow
    by_cases hlt : i < s.size
    · have hidx := index_str s i hlt
      have hiI : (i : Int) < (s.size : Int) := by omega
      by_cases hc : (lk s i).toNat = 10
      · have b10 : (((lk s i).toNat : Int) == 10) = true := by rw [hc]; rfl
        have HN := hide (HA.out.next hfr hlt hc)
        have hex := bs_ext s fr i
        generalize (s.data.toList.drop fr).take (i - fr) = sub at *
        have HEX := hide hex
        generalize lk s i = x at *
        clear hc HA hex
        have hfi : (fr : Int) ≤ (i : Int) := by omega
        go_wp2_with (at_builtin; refine wpList_append_own _ rfl _ _ 42 rfl w.heap.size 9 i0 (.string ByteArray.empty) 1 16 Try.underlying42 hi hz0 hz1 hz2 rfl (by decide) _ _ _ rfl (World.ownsRow.alloc HRW.out _) ⟨wr.heap.size, 0, none⟩ 1 1 [.string (s.extract fr i)] rfl rfl (cell_one_new _ _ _) (by intro u hu; simp at hu; subst hu; rfl) (by unfold maxLen; omega) (by omega) (by simp; omega) ?_; intro v5 w5 hown5 hgrow5 hnil5)
        have hr5 : Row w5 w.heap.size 9 v5 (sV (acc ++ [sub])) := by
          unfold Row
          rw [sV_snoc, HEX.out, List.length_append]
          exact hown5
        have hnx5 : Below w.heap.size w w5 := (hb.alloc hsz _).grown hgrow5 (by simp; omega) (fun k hk => ((HRW.out).lt k hk).1)
        go_roundw
        case rel => exact ⟨i + 1, i + 1, _, by omega, by omega, by simp; omega, by go_num, by go_num, hr5, HN, hnx5⟩
        case measure => simp [intOf]; omega
      · have b10 : (((lk s i).toNat : Int) == 10) = false := by simp; omega
        have HN := hide (HA.out.more hc)
        generalize lk s i = x at *
        clear hc HA
        go_wp2
        go_roundw
        case rel => exact ⟨i + 1, fr, acc, by omega, by omega, by omega, by go_num, by go_num, HRW.out, HN, hb⟩
        case measure => simp [intOf]; omega
    · have hie : i = s.size := by omega
      by_cases hfs : fr < s.size
      · have HN : Hid (linesL s.data.toList = acc ++ [s.data.toList.drop fr]) := (hie ▸ HA.out).last hfs
        have hex := bs_ext s fr s.size
        rw [List.take_of_length_le (by rw [List.length_drop, len_data]; omega)] at hex
        have HEX := hide hex
        generalize s.data.toList.drop fr = sub at *
        clear HA hie hex
        have hiI : ¬ (i : Int) < (s.size : Int) := by omega
        have hfi : (fr : Int) < (s.size : Int) := by omega
        have hfi2 : (fr : Int) ≤ (s.size : Int) := by omega
        go_wp2_with (at_builtin; refine wpList_append_own _ rfl _ _ 42 rfl w.heap.size 9 i0 (.string ByteArray.empty) 1 16 Try.underlying42 hi hz0 hz1 hz2 rfl (by decide) _ _ _ rfl (World.ownsRow.alloc HRW.out _) ⟨wr.heap.size, 0, none⟩ 1 1 [.string (s.extract fr s.size)] rfl rfl (cell_one_new _ _ _) (by intro u hu; simp at hu; subst hu; rfl) (by unfold maxLen; omega) (by omega) (by simp; omega) ?_; intro v5 w5 hown5 hgrow5 hnil5)
        have hr5 : Row w5 w.heap.size 9 v5 (sV (acc ++ [sub])) := by
          unfold Row
          rw [sV_snoc, HEX.out, List.length_append]
          exact hown5
        have hnx5 : Below w.heap.size w w5 := (hb.alloc hsz _).grown hgrow5 (by simp; omega) (fun k hk => ((HRW.out).lt k hk).1)
        go_ret
        exact ⟨v5, rfl, by rw [HN.out]; exact hr5, hnx5⟩
      · have HN : Hid (linesL s.data.toList = acc) := by
          show _ = _
          rw [HA.out.1, drop_out (by omega)]
          simp [linesL]
        have hiI : ¬ (i : Int) < (s.size : Int) := by omega
        have hfi : ¬ (fr : Int) < (s.size : Int) := by omega
        clear HA hie
        go_wp2
        go_ret
        exact ⟨_, rfl, by rw [HN.out]; exact HRW.out, hb⟩
end Go.Proofs.Ytcdilcjgmcamcab
