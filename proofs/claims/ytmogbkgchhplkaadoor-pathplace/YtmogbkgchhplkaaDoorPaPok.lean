/- Parse, both ways; Text and Parse back and forth. -/
import Derived.Test.YtmogbkgchhplkaaDoorPaTold
namespace Go.Proofs.YtmogbkgchhplkaaDoor
open Go.RowKit

theorem text_iff (l : List ByteArray) : textB l = true ↔ (1 ≤ l.length ∧ l.length ≤ 16 ∧ (joinS l).size ≤ 255 ∧ ∀ x ∈ l, nmL (toL x)) := by
  unfold textB
  rw [Bool.and_eq_true, decide_eq_true_eq, List.all_eq_true]
  constructor
  · rintro ⟨⟨h1, h2, h3⟩, h4⟩
    exact ⟨h1, h2, h3, fun x hx => (nameB_L x).1 (h4 x hx)⟩
  · rintro ⟨h1, h2, h3, h4⟩
    exact ⟨⟨h1, h2, h3⟩, fun x hx => (nameB_L x).2 (h4 x hx)⟩
theorem wrong_iff (s : ByteArray) : wrongB s = false ↔ ((∀ p ∈ cutL (toL s), nmL p) ∧ (cutL (toL s)).length ≤ 16 ∧ s.size ≤ 255) := by
  rw [wrong_pl, pl_ok, toL_len]
/-- What Text writes Parse reads as it was. -/
theorem back1 {l : List ByteArray} (h : textB l = true) : wrongB (joinS l) = false ∧ parts (joinS l) = l := by
  obtain ⟨h1, h2, h3, h4⟩ := (text_iff l).1 h
  have hc : cutL (toL (joinS l)) = l.map toL := by
    rw [toL_join]
    refine cut_jn _ ?_ ?_
    · intro e
      have h0 : (l.map toL).length = 0 := by rw [e]; rfl
      rw [List.length_map] at h0
      omega
    · intro p hp
      obtain ⟨x, hx, rfl⟩ := List.mem_map.1 hp
      exact nmL_noSlash (h4 x hx)
  refine ⟨(wrong_iff _).2 ⟨?_, ?_, h3⟩, map_toL_inj (by rw [parts_L, hc])⟩
  · rw [hc]
    intro p hp
    obtain ⟨x, hx, rfl⟩ := List.mem_map.1 hp
    exact h4 x hx
  · rw [hc, List.length_map]; exact h2
/-- And Text of what Parse reads is just the text. -/
theorem back2 {s : ByteArray} (h : wrongB s = false) : textB (parts s) = true ∧ textS (parts s) = s ∧ s.size ≤ 255 ∧ 1 ≤ (parts s).length ∧ (parts s).length ≤ 16 ∧ ∀ x ∈ parts s, x.size ≤ 2000 := by
  obtain ⟨h1, h2, h3⟩ := (wrong_iff s).1 h
  have hj : joinS (parts s) = s := toL_inj (by rw [toL_join, parts_L, jn_cut])
  have hl : (parts s).length = (cutL (toL s)).length := by rw [← parts_L, List.length_map]
  have hp1 : 1 ≤ (parts s).length := by rw [parts_len]; omega
  have hall : ∀ x ∈ parts s, nmL (toL x) := fun x hx => h1 _ (by rw [← parts_L]; exact List.mem_map_of_mem hx)
  have ht : textB (parts s) = true := (text_iff _).2 ⟨hp1, by omega, by rw [hj]; exact h3, hall⟩
  refine ⟨ht, ?_, h3, hp1, by omega, fun x hx => ?_⟩
  · unfold textS; rw [if_pos ht, hj]
  · have := ((nmL_iff _).1 (hall x hx)).2.2.2.1
    rw [toL_len] at this
    omega
theorem parse_ok (s : ByteArray) (hs : s.size ≤ 1000000) (w : World) (hM : Mx w) (h : wrongB s = false) : Calls Tryd.prog 21 #[.string s] w fun e w' => ∃ g, e = .returned (.tuple #[.slice (some ⟨g, 0, none⟩) (parts s).length (parts s).length, .int .i64 0, .int .i64 0]) ∧ IsS w' (.slice (some ⟨g, 0, none⟩) (parts s).length (parts s).length) (parts s) ∧ w.heap.size ≤ g ∧ w'.heap[g]? = some (.cells ((parts s).map Value.string).toArray 9 (0, 0)) ∧ Below w.heap.size w w' := by
  refine (parse_calls s hs w hM).mono ?_
  rintro e w' (⟨h', _⟩ | ⟨_, g, h1, h2, h3, h4⟩)
  · rw [h] at h'; cases h'
  · rw [← parts_len] at h1
    have hl : (parts s).length ≤ s.size + 1 := by
      rw [parts_len]
      have := Lib.countB_le slash (by decide) s.size s (Nat.le_refl _)
      omega
    exact ⟨g, h1, isS_block (by omega) h3, h2, h3, h4⟩
theorem parse_bad (s : ByteArray) (hs : s.size ≤ 1000000) (w : World) (hM : Mx w) (h : wrongB s = true) : Calls Tryd.prog 21 #[.string s] w fun e w' => e = .returned (.tuple #[.slice none 0 0, .int .i64 50, .int .i64 (((lvS s).1 : Nat) : Int)]) ∧ Below w.heap.size w w' := by
  refine (parse_calls s hs w hM).mono ?_
  rintro e w' (⟨_, h1, h2⟩ | ⟨h', _⟩)
  · exact ⟨h1, h2⟩
  · rw [h] at h'; cases h'
end Go.Proofs.YtmogbkgchhplkaaDoor
