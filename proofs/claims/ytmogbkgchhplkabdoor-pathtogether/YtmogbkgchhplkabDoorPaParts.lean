/- The document's Parts. -/
import Derived.Test.YtmogbkgchhplkabDoorPaRef
import Derived.Test.YtmogbkgchhplkabDoorFam
namespace Go.Proofs.YtmogbkgchhplkabDoor
open Go.RowKit

theorem info_part {t : TypeId} {z : Value} {s b : Nat} (h : (Tryd.prog.info? t).map (fun i => (i.zero, i.size, i.bytes)) = some (some z, s, b)) : ∃ i, Tryd.prog.info? t = some i ∧ i.zero = some z ∧ i.size = s ∧ i.bytes = b := by
  cases hi : Tryd.prog.info? t with
  | none => rw [hi] at h; cases h
  | some i =>
    rw [hi] at h
    simp only [Option.map_some, Option.some.injEq, Prod.mk.injEq] at h
    exact ⟨i, rfl, h.1, h.2.1, h.2.2⟩
def sV (l : List ByteArray) : List Value := l.map Value.string
theorem sV_len (l : List ByteArray) : (sV l).length = l.length := by simp [sV]
/-- What stands between the slashes. -/
def partsF (s : ByteArray) : Nat → Nat → Nat → List ByteArray
  | 0, _, fr => [s.extract fr s.size]
  | n + 1, i, fr => if byt s i = 47 then s.extract fr i :: partsF s n (i + 1) (i + 1) else partsF s n (i + 1) fr
def partsD (s : ByteArray) : List ByteArray := partsF s s.size 0 0
set_option maxRecDepth 100000 in
set_option maxHeartbeats 4000000 in
theorem rparts_calls (s : ByteArray) (hs : s.size ≤ 1000000) (w : World) : Calls Tryd.prog 30 #[.string s] w fun e w' => ∃ v, e = .returned v ∧ Row w' w.heap.size 9 v (sV (partsD s)) ∧ Below w.heap.size w w' := by
  obtain ⟨i0, hi, hz0, hz1, hz2⟩ := info_part infoStr
  go_enter Tryd.func30, Tryd.ntmps30
  go_wp2_with fail
  go_loopw [3, 4, 5] (fun lv fv iv wr => ∃ (i fr : Nat) (acc : List ByteArray), i ≤ s.size ∧ fr ≤ i ∧ acc.length ≤ i ∧ fv = .int .i64 (fr : Int) ∧ iv = .int .i64 (i : Int) ∧ Row wr w.heap.size 9 lv (sV acc) ∧ Hid (acc ++ partsF s (s.size - i) i fr = partsD s) ∧ Below w.heap.size w wr) (fun _ _ i _ => s.size - (intOf i).toNat)
  case atStart => exact ⟨0, 0, [], by omega, by omega, by simp, rfl, rfl, Row.nil _ _ _, by show _ = _; unfold partsD; rw [Nat.sub_zero]; rfl, Below.refl _ _⟩
  case round =>
    obtain ⟨i, fr, acc, hil, hfr, hac, rfl, rfl, hrow, HA, hb⟩ := hrel
    have hsz := hb.size
    obtain ⟨al, cl, hvl⟩ := hrow.shape
    subst hvl
    have hal : (sV acc).length ≤ 1000000 := by rw [sV_len]; omega
    have HRW := hide hrow
    by_cases hlt : i < s.size
    · have hidx := index_str s i hlt
      have hstep : partsF s (s.size - i) i fr = if byt s i = 47 then s.extract fr i :: partsF s (s.size - (i + 1)) (i + 1) (i + 1) else partsF s (s.size - (i + 1)) (i + 1) fr := by
        rw [show s.size - i = (s.size - (i + 1)) + 1 by omega]; rfl
      have HST : Hid (acc ++ _ = partsD s) := hstep ▸ HA.out
      have hiI : (i : Int) < (s.size : Int) := by omega
      generalize byt s i = x at *
      clear hstep HA
      by_cases hx : x = 47
      · subst hx
        have HN : Hid ((acc ++ [s.extract fr i]) ++ partsF s (s.size - (i + 1)) (i + 1) (i + 1) = partsD s) := by
          show _ = _
          rw [← HST.out, if_pos rfl, List.append_assoc]; rfl
        clear HST
        obtain ⟨sub, hsub⟩ : ∃ sub, sub = s.extract fr i := ⟨_, rfl⟩
        have hfi : (fr : Int) ≤ (i : Int) := by omega
        go_wp2_with (at_builtin; refine wpList_append_own _ rfl _ _ 28 rfl w.heap.size 9 i0 (.string ByteArray.empty) 1 16 Tryd.underlying28 hi hz0 hz1 hz2 rfl (by decide) _ _ _ rfl (World.ownsRow.alloc HRW.out _) ⟨wr.heap.size, 0, none⟩ 1 1 [.string (s.extract fr i)] rfl rfl (cell_one_new _ _ _) (by intro u hu; simp at hu; subst hu; rfl) (by unfold maxLen; omega) (by omega) (by simp; omega) ?_; intro v5 w5 hown5 hgrow5 hnil5)
        have hr5 : Row w5 w.heap.size 9 v5 (sV (acc ++ [s.extract fr i])) := by
          unfold Row sV
          rw [List.map_append, List.length_append]
          exact hown5
        have hnx5 : Below w.heap.size w w5 := (hb.alloc hsz _).grown hgrow5 (by simp; omega) (fun k hk => ((HRW.out).lt k hk).1)
        go_roundw
        case rel => exact ⟨i + 1, i + 1, _, by omega, by omega, by simp; omega, by go_num, by go_num, hr5, HN, hnx5⟩
        case measure => simp [intOf]; omega
      · have HN : Hid (acc ++ partsF s (s.size - (i + 1)) (i + 1) fr = partsD s) := by
          show _ = _
          rw [← HST.out, if_neg hx]
        have b47 : (x == 47) = false := by simpa using hx
        clear HST hx
        go_wp2
        go_roundw
        case rel => exact ⟨i + 1, fr, acc, by omega, by omega, by omega, by go_num, by go_num, HRW.out, HN, hb⟩
        case measure => simp [intOf]; omega
    · have hie : i = s.size := by omega
      have HN : Hid (acc ++ [s.extract fr s.size] = partsD s) := by
        show _ = _
        rw [← HA.out, hie, Nat.sub_self]; rfl
      clear HA hie
      have hfs : (fr : Int) ≤ (s.size : Int) := by omega
      go_wp2_with (at_builtin; refine wpList_append_own _ rfl _ _ 28 rfl w.heap.size 9 i0 (.string ByteArray.empty) 1 16 Tryd.underlying28 hi hz0 hz1 hz2 rfl (by decide) _ _ _ rfl (World.ownsRow.alloc HRW.out _) ⟨wr.heap.size, 0, none⟩ 1 1 [.string (s.extract fr s.size)] rfl rfl (cell_one_new _ _ _) (by intro u hu; simp at hu; subst hu; rfl) (by unfold maxLen; omega) (by omega) (by simp; omega) ?_; intro v5 w5 hown5 hgrow5 hnil5)
      have hr5 : Row w5 w.heap.size 9 v5 (sV (acc ++ [s.extract fr s.size])) := by
        unfold Row sV
        rw [List.map_append, List.length_append]
        exact hown5
      have hnx5 : Below w.heap.size w w5 := (hb.alloc hsz _).grown hgrow5 (by simp; omega) (fun k hk => ((HRW.out).lt k hk).1)
      go_ret
      exact ⟨v5, rfl, by rw [← HN.out]; exact hr5, hnx5⟩
end Go.Proofs.YtmogbkgchhplkabDoor
