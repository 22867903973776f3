/- What the document's Part and ReadBytes answer: as wire's. -/
import Derived.Test.YtmfpkoegpoboiabDoorRefR
import Derived.Test.YtmfpkoegpoboiabDoorRBytes
namespace Go.Proofs.YtmfpkoegpoboiabDoor
open Go.RowKit

set_option maxHeartbeats 1000000 in
theorem part_in (b off len cap p N : Nat) (xs : List Int) (w : World) (hn : len = xs.length) (hl : len ≤ cap) (_hc : cap ≤ 9223372036854775807) (hr : len ≤ 140737488355328) (hp : p + N ≤ len)
    (hcell : ∀ j, j < len → w.cell? ⟨b, off + j, none⟩ = some (.int .u8 (xs.getD j 0))) :
    Calls Tryd.prog 49 #[.slice (some ⟨b, off, none⟩) len cap, .int .i64 (p : Int), .int .i64 ((p : Int) + N)] w fun e w' => ∃ v, e = .returned v ∧
      w'.ownsRow w.heap.size 5 1 v N (((xs.drop p).take N).map (Value.int .u8)) ∧ Below w.heap.size w w' := by
  obtain ⟨i0, hi, hz0, hz1, hz2⟩ := info_parts info8
  have hnews : ∀ j u, (((xs.drop p).take N).map (Value.int .u8))[j]? = some u → w.cell? ⟨b, off + p + j, none⟩ = some u := by
    intro j u hu
    simp only [List.getElem?_map, Option.map_eq_some_iff] at hu
    obtain ⟨x, hx, rfl⟩ := hu
    have hjl := (List.getElem?_eq_some_iff.1 hx).1
    rw [List.length_take, List.length_drop] at hjl
    rw [List.getElem?_take_of_lt (by omega), List.getElem?_drop] at hx
    rw [Nat.add_assoc, hcell (p + j) (by omega), List.getD_eq_getElem?_getD, hx]
    rfl
  have HNW := hide hnews
  have hlen : (((xs.drop p).take N).map (Value.int .u8)).length = N := by simp; omega
  have HL := hide hlen
  clear hcell hn hnews hlen
  obtain ⟨Q, hQ⟩ : ∃ Q, Q = p + N := ⟨_, rfl⟩
  rw [show (p : Int) + N = (Q : Int) by omega]
  by_cases h0 : N = 0
  · subst h0
    obtain rfl : Q = p := by omega
    clear hQ
    by_cases hcp : cap = Q
    · subst hcp
      go_enter Tryd.func49, Tryd.ntmps49
      go_wp2_with (at_builtin; refine wpList_append_own _ rfl _ _ 23 rfl w.heap.size 5 i0 (.int .u8 0) 1 1 Tryd.underlying23 hi hz0 hz1 hz2 rfl (by decide) (.slice none 0 0) 0 [] rfl (World.ownsRow_nil _ _ _ _) _ 0 _ [] rfl rfl (fun j u hj => by simp at hj) (fun u hu => by simp at hu) (by unfold maxLen; omega) (by omega) (Nat.le_refl _) ?_; intro v' w1 hown hgrow hnil)
      go_ret
      exact ⟨v', rfl, by simpa using hown, (Below.refl _ _).grown hgrow (Nat.le_refl _) (fun k hk => by simp [Value.ownBlock] at hk)⟩
    · go_enter Tryd.func49, Tryd.ntmps49
      go_wp2_with (at_builtin; refine wpList_append_own _ rfl _ _ 23 rfl w.heap.size 5 i0 (.int .u8 0) 1 1 Tryd.underlying23 hi hz0 hz1 hz2 rfl (by decide) (.slice none 0 0) 0 [] rfl (World.ownsRow_nil _ _ _ _) _ 0 _ [] rfl rfl (fun j u hj => by simp at hj) (fun u hu => by simp at hu) (by unfold maxLen; omega) (by omega) (Nat.le_refl _) ?_; intro v' w1 hown hgrow hnil)
      go_ret
      exact ⟨v', rfl, by simpa using hown, (Below.refl _ _).grown hgrow (Nat.le_refl _) (fun k hk => by simp [Value.ownBlock] at hk)⟩
  · have hcp : ¬ cap = p := by omega
    have hN0 : 0 < N := by omega
    have HPN : Hid (Q - p = N) := by show _ = _; omega
    have hpQ : p ≤ Q := by omega
    have hQl : Q ≤ len := by omega
    have hQm : N ≤ 140737488355328 := by omega
    have HQ := hide hQ
    have hQN : 0 + (Q - p) ≤ 140737488355328 := by omega
    clear hQ hp
    go_enter Tryd.func49, Tryd.ntmps49
    go_wp2_with (at_builtin; refine wpList_append_own _ rfl _ _ 23 rfl w.heap.size 5 i0 (.int .u8 0) 1 1 Tryd.underlying23 hi hz0 hz1 hz2 rfl (by decide) (.slice none 0 0) 0 [] rfl (World.ownsRow_nil _ _ _ _) ⟨b, off + p, none⟩ (Q - p) _ (((xs.drop p).take N).map (Value.int .u8)) rfl (by rw [HL.out, HPN.out]; omega) (fun j u hj => by rw [Addr.add_lit]; exact unhide HNW j u hj) (u8_one _) (by unfold maxLen; omega) (by omega) (Nat.le_refl _) ?_; intro v' w1 hown hgrow hnil)
    go_ret
    rw [HPN.out, Nat.zero_add] at hown
    exact ⟨v', rfl, by simpa using hown, (Below.refl _ _).grown hgrow (Nat.le_refl _) (fun k hk => by simp [Value.ownBlock] at hk)⟩
end Go.Proofs.YtmfpkoegpoboiabDoor
