/- The document's List. -/
import Derived.Test.YtifmfnkpogconaaDoorRsGive
namespace Go.Proofs.YtifmfnkpogconaaDoor
open Go.RowKit

/-- The free ones among the first n. -/
def setR (bs : List Bool) (n : Nat) : List Nat := (List.range n).filter fun i => bs.getD i false
theorem setR_succ (bs : List Bool) (n : Nat) : setR bs (n + 1) = setR bs n ++ (if bs.getD n false = true then [n] else []) := by
  unfold setR
  rw [List.range_succ, List.filter_append, List.filter_cons, List.filter_nil]
theorem setR_le (bs : List Bool) (n : Nat) : (setR bs n).length ≤ n := by
  have := List.length_filter_le (fun i => bs.getD i false) (List.range n)
  rw [List.length_range] at this
  exact this
/-- What List tells. -/
def allR (fr : Nat) (bs : List Bool) : List Nat := (setR bs bs.length).map (fr + ·)
set_option maxRecDepth 100000 in
set_option maxHeartbeats 4000000 in
theorem rlist_calls {w : World} {B g gb fr to_ : Nat} {bs : List Bool} (h : Rs w B g gb fr to_ bs) :
    Calls Tryd.prog 38 #[.pointer (some ⟨g, 0, none⟩)] w fun e w' => ∃ v, e = .returned v ∧ Row w' w.heap.size 3 v (iV (allR fr bs)) ∧ Below w.heap.size w w' := by
  obtain ⟨i0, hi, hz0, hz1, hz2⟩ := info_part infoI
  have HV : Hid (∀ W, Below w.heap.size w W → ∃ c, W.cell? ⟨g, 0, none⟩ = some (.int .i64 (fr : Int)) ∧ W.cell? ⟨g, 2, none⟩ = some (.slice (some ⟨gb, 0, none⟩) bs.length c) ∧ bs.length ≤ c ∧ c ≤ 9223372036854775807 ∧ ∀ i, i < bs.length → W.cell? ⟨gb, i, none⟩ = some (.bool (bs.getD i false))) := fun W hW => by
    obtain ⟨c, c0, _, c2, h1, h2, _, _, _, h3⟩ := (h.below hW).view
    exact ⟨c, c0, c2, h1, h2, h3⟩
  have hr := h.rng
  have hl := h.len
  have hLb : bs.length ≤ 65536 := by omega
  have hfr : fr ≤ 65536 := by omega
  unfold allR
  obtain ⟨L, hL⟩ : ∃ L, L = bs.length := ⟨_, rfl⟩
  rw [← hL] at HV hLb ⊢
  clear h hl hL hr
  go_enter Tryd.func38, Tryd.ntmps38
  go_wp2_with fail
  go_loopw [3, 4] (fun lv iv W => ∃ (i : Nat) (acc : List Nat), i ≤ L ∧ iv = .int .i64 (i : Int) ∧ acc.length ≤ 65536 ∧ Hid (acc = (setR bs i).map (fr + ·)) ∧ Row W w.heap.size 3 lv (iV acc) ∧ Below w.heap.size w W) (fun _ i _ => L - (intOf i).toNat)
  case atStart => exact ⟨0, [], by omega, rfl, by simp, by show _ = _; rfl, Row.nil _ _ _, Below.refl _ _⟩
  case round =>
    obtain ⟨i, acc, hiL, rfl, hak, HA, hrow, hb⟩ := hrel
    obtain ⟨c, c0, c2, hLc, hcm, hcells⟩ := unhide HV wr hb
    by_cases hlt : i < L
    · have hci := hcells i hlt
      have hsz := hb.size
      have HS := hide (setR_succ bs i)
      have hsl := setR_le bs (i + 1)
      obtain ⟨r, hr⟩ : ∃ r, r = bs.getD i false := ⟨_, rfl⟩
      rw [← hr] at hci HS
      have HSL := hide hsl
      clear hcells hr hsl
      obtain ⟨al, cl, hvl⟩ := hrow.shape
      rw [iV_len] at hvl
      obtain ⟨m, hm⟩ : ∃ m, m = acc.length := ⟨_, rfl⟩
      rw [← hm] at hvl hak
      subst hvl
      have HM := hide hm
      clear hm
      cases r with
      | false =>
        go_wp2
        go_roundw
        case rel => exact ⟨i + 1, acc, by omega, by go_num, by rw [← HM.out]; exact hak, by show _ = _; rw [HS.out, HA.out]; simp, hrow, hb⟩
        case measure => simp [intOf]; omega
      | true =>
        have g1 : IntKind.i64.wrap ((fr : Int) + (i : Int)) = ((fr + i : Nat) : Int) := by rw [IntKind.wrap_i64]; omega
        have HIL := hide (iV_len acc)
        have hle : (acc ++ [fr + i]).length ≤ 65536 := by
          have e1 := HA.out
          have e2 := HS.out
          have e3 := HSL.out
          rw [e2] at e3
          rw [e1]
          simp at e3 ⊢
          omega
        go_wp2_with (at_builtin; refine wpList_append_own _ rfl _ _ 49 rfl w.heap.size 3 i0 (.int .i64 0) 1 8 Tryd.underlying49 hi hz0 hz1 hz2 rfl (by decide) _ _ _ rfl (World.ownsRow.alloc hrow _) ⟨wr.heap.size, 0, none⟩ 1 1 [.int .i64 ((fr + i : Nat) : Int)] rfl rfl (cell_one_new _ _ _) (by intro u hu; simp at hu; subst hu; rfl) (by have := HIL.out; have := HM.out; unfold maxLen; omega) (by have := HIL.out; have := HM.out; omega) (by simp; omega) ?_; intro v3 w3 hr3 hg3 _)
        have hE : (iV acc ++ [Value.int .i64 ((fr + i : Nat) : Int)]) = iV (acc ++ [fr + i]) := by simp [iV]
        have hr4 : Row w3 w.heap.size 3 v3 (iV (acc ++ [fr + i])) := by
          rw [← hE]
          unfold Row
          rw [List.length_append]
          exact hr3
        have hb3 : Below w.heap.size w w3 := (hb.alloc hsz _).grown hg3 (by simp; omega) fun b hb => (hrow.lt b hb).1
        refine ⟨⟨i + 1, acc ++ [fr + i], by omega, by go_num, hle, ?_, hr4, hb3⟩, by simp [intOf]; omega⟩
        show _ = _
        rw [HS.out, HA.out]
        simp
    · have he : i = L := by omega
      have HE := hide he
      clear he hcells
      go_wp2
      go_ret
      exact ⟨_, rfl, by rw [← HE.out, ← HA.out]; exact hrow, hb⟩
end Go.Proofs.YtifmfnkpogconaaDoor
