/- What roomy and both answer. -/
import Derived.Test.YtmfpkoegpoboiaaDoorStrings
namespace Go.Proofs.YtmfpkoegpoboiaaDoor
open Go.RowKit

theorem lit_below (w : World) (o : Obj) : Below w.heap.size w (w.alloc o) := (Below.refl _ _).alloc (Nat.le_refl _) _

set_option maxHeartbeats 400000 in
theorem roomy_some (ad : Addr) (cap : Nat) (xs : List Int) (w : World) (hl : xs.length ≤ 140737488351232) (hx : ∀ x ∈ xs, 0 ≤ x ∧ x ≤ 255)
    (hc : ∀ j u, (xs.map (Value.int .u8))[j]? = some u → w.cell? (ad.add j) = some u) :
    Calls Tryd.prog 27 #[.slice (some ad) xs.length cap] w fun e w' => ∃ v, e = .returned v ∧ Own8 w' w.heap.size v (xs ++ [201, 202, 203, 204, 205]) ∧ Below w.heap.size w w' := by
  obtain ⟨i0, hi, hz0, hz1, hz2⟩ := info_parts info8
  have HC := hide hc
  have HX := hide hx
  clear hc hx
  have h5 : ∀ w' : World, ∀ j u, (([201, 202, 203, 204, 205] : List Int).map (Value.int .u8))[j]? = some u → (w'.alloc (.cells #[.int .u8 201, .int .u8 202, .int .u8 203, .int .u8 204, .int .u8 205] 5)).cell? ((⟨w'.heap.size, 0, none⟩ : Addr).add j) = some u := by
    intro w' j u hj
    rw [Addr.add_lit, cell_of_row _ w'.heap.size (0 + j) #[.int .u8 201, .int .u8 202, .int .u8 203, .int .u8 204, .int .u8 205] 5 (0, 0) (heap_alloc_new w' _)]
    simpa using hj
  have H5 := hide h5
  clear h5
  go_enter Tryd.func27, Tryd.ntmps27
  go_wp2_with (first
    | (at_builtin; refine wpList_append_own _ rfl _ _ 27 rfl w.heap.size 5 i0 (.int .u8 0) 1 1 Tryd.underlying27 hi hz0 hz1 hz2 rfl (by decide) (.slice none 0 0) 0 [] rfl (World.ownsRow_nil _ _ _ _) ad xs.length cap (xs.map (Value.int .u8)) rfl (by simp) (unhide HC) (u8_one xs) (by unfold maxLen; omega) (by omega) (Nat.le_refl _) ?_; intro v1 w1 hown1 hgrow1 hnil1; have hB1 := (Below.refl w.heap.size w).grown hgrow1 (Nat.le_refl _) (fun k hk => (by simp [Value.ownBlock] at hk)); have hsz1 := hB1.size; rw [Nat.zero_add] at hown1; clear hgrow1 hnil1)
    | (at_builtin; refine wpList_append_own _ rfl _ _ 27 rfl w.heap.size 5 i0 (.int .u8 0) 1 1 Tryd.underlying27 hi hz0 hz1 hz2 rfl (by decide) _ _ _ rfl (hown1.alloc _) ⟨w1.heap.size, 0, none⟩ 5 5 (([201, 202, 203, 204, 205] : List Int).map (Value.int .u8)) rfl rfl (unhide H5 _) (u8_one _) (by unfold maxLen; omega) (by omega) (by simp; omega) ?_; intro v2 w2 hown2 hgrow2 hnil2))
  go_ret
  refine ⟨_, rfl, ⟨?_, ?_⟩, (hB1.alloc hsz1 _).grown hgrow2 (by simp; omega) (fun k hk => (hown1.lt k hk).1)⟩
  · simpa using hown2
  · intro x hx
    rcases List.mem_append.1 hx with hx | hx
    · exact unhide HX x hx
    · simp at hx; omega

set_option maxHeartbeats 400000 in
theorem roomy_nil (w : World) :
    Calls Tryd.prog 27 #[.slice none 0 0] w fun e w' => ∃ v, e = .returned v ∧ Own8 w' w.heap.size v [201, 202, 203, 204, 205] ∧ Below w.heap.size w w' := by
  obtain ⟨i0, hi, hz0, hz1, hz2⟩ := info_parts info8
  have h5 : ∀ w' : World, ∀ j u, (([201, 202, 203, 204, 205] : List Int).map (Value.int .u8))[j]? = some u → (w'.alloc (.cells #[.int .u8 201, .int .u8 202, .int .u8 203, .int .u8 204, .int .u8 205] 5)).cell? ((⟨w'.heap.size, 0, none⟩ : Addr).add j) = some u := by
    intro w' j u hj
    rw [Addr.add_lit, cell_of_row _ w'.heap.size (0 + j) #[.int .u8 201, .int .u8 202, .int .u8 203, .int .u8 204, .int .u8 205] 5 (0, 0) (heap_alloc_new w' _)]
    simpa using hj
  have H5 := hide h5
  clear h5
  go_enter Tryd.func27, Tryd.ntmps27
  go_wp2_with (first
    | (at_builtin; refine wpList_append_own_none rfl _ _ 27 rfl w.heap.size 5 i0 1 Tryd.underlying27 hi (.slice none 0 0) 0 [] rfl (World.ownsRow_nil _ _ _ _) rfl ?_)
    | (at_builtin; refine wpList_append_own _ rfl _ _ 27 rfl w.heap.size 5 i0 (.int .u8 0) 1 1 Tryd.underlying27 hi hz0 hz1 hz2 rfl (by decide) (.slice none 0 0) 0 [] rfl (World.ownsRow_nil _ _ _ _) ⟨w.heap.size, 0, none⟩ 5 5 (([201, 202, 203, 204, 205] : List Int).map (Value.int .u8)) rfl rfl (unhide H5 _) (u8_one _) (by unfold maxLen; omega) (by omega) (by simp) ?_; intro v2 w2 hown2 hgrow2 hnil2))
  go_ret
  refine ⟨_, rfl, ⟨?_, by decide⟩, ((Below.refl w.heap.size w).alloc (Nat.le_refl _) _).grown hgrow2 (by simp) (fun k hk => by simp [Value.ownBlock] at hk)⟩
  simpa using hown2

/-- roomy: the bytes, in new memory, with five more behind them. -/
theorem roomy_calls {w : World} {v : Value} {xs : List Int} (h : IsB w v xs) (hl : xs.length ≤ 140737488351232) :
    Calls Tryd.prog 27 #[v] w fun e w' => ∃ u, e = .returned u ∧ Own8 w' w.heap.size u (xs ++ [201, 202, 203, 204, 205]) ∧ Below w.heap.size w w' := by
  have h' := h
  obtain ⟨_, a, cap, rfl, _, _, hz, hc⟩ := h
  cases a with
  | none =>
    have h0 : xs = [] := by
      by_cases hp : 0 < xs.length
      · obtain ⟨b, off, ha, _⟩ := hc hp
        cases ha
      · exact List.eq_nil_of_length_eq_zero (by omega)
    subst h0
    rw [hz rfl]
    exact roomy_nil w
  | some ad => exact roomy_some ad cap xs w hl h'.mem h'.cells
end Go.Proofs.YtmfpkoegpoboiaaDoor
