/- cutRefs, place; a byte of a row of the call's own. -/
import Derived.Test.YthhjlopgpmaokabDoorJrTo
namespace Go.Proofs.YthhjlopgpmaokabDoor
open Go.RowKit Go.Maps

theorem IsJ.cut {w : World} {a : Option Addr} {n cap k : Nat} {l : List JF} (h : IsJ w (.slice a n cap) l) (hk : k ≤ n) : IsJ w (.slice a k cap) (l.take k) := by
  obtain ⟨h0, a', c', hv, hl, hm, hz, hc⟩ := h
  injection hv with e1 e2 e3
  subst e1 e2 e3
  have hlk : (l.take k).length = k := by rw [List.length_take]; omega
  refine ⟨fun e he => h0 e (List.mem_of_mem_take he), a, cap, by rw [hlk], by omega, hm, hz, fun hp => ?_⟩
  obtain ⟨b, o, ha, hr⟩ := hc (by omega)
  refine ⟨b, o, ha, fun j hj => ?_⟩
  have := hr j (by omega)
  rw [show (l.take k).getD j .nul = l.getD j .nul by rw [List.getD_eq_getElem?_getD, List.getElem?_take_of_lt (by omega), ← List.getD_eq_getElem?_getD]]
  exact this
theorem IsJ.room {w : World} {a : Option Addr} {n cap : Nat} {l : List JF} (h : IsJ w (.slice a n cap) l) : n ≤ cap ∧ cap ≤ 9223372036854775807 := by
  obtain ⟨h0, a', c', hv, hl, hm, hz, hc⟩ := h
  injection hv with e1 e2 e3
  subst e1 e2 e3
  exact ⟨hl, hm⟩
theorem cutrefs_calls {w : World} {a : Option Addr} {n cap : Nat} {l : List JF} (h : IsJ w (.slice a n cap) l) :
    Calls Tryd.prog 29 #[.slice a n cap] w fun e w' => (∃ m, e = .returned (.slice a m cap) ∧ m ≤ n ∧ (m = 12 ∨ (m = n ∧ n ≤ 12))) ∧ w' = w := by
  have hn := h.lenEq
  have hr := h.room
  by_cases hlt : 12 < n
  · have hkI : (12 : Int) < (n : Int) := by omega
    have hkc : (12 : Int) ≤ (cap : Int) := by omega
    obtain ⟨ad, had⟩ : ∃ ad, a = some ad := by
      obtain ⟨_, a', cp', hv, _, _, _, hc⟩ := h
      obtain ⟨b, off, ha, _⟩ := hc (by omega)
      injection hv with e1
      exact ⟨_, e1.trans ha⟩
    subst had
    clear hn h
    go_enter Tryd.func29, Tryd.ntmps29
    go_wp2
    go_ret
    exact ⟨⟨12, rfl, by omega, Or.inl rfl⟩, rfl⟩
  · have hkI : ¬ (12 : Int) < (n : Int) := by omega
    clear hn h
    go_enter Tryd.func29, Tryd.ntmps29
    go_wp2
    go_ret
    exact ⟨⟨n, rfl, by omega, Or.inr ⟨rfl, by omega⟩⟩, rfl⟩
theorem jplace17_calls {x : Int} {n : Nat} (h0 : 0 < n) (hn : n ≤ 100000) (w : World) : Calls Tryd.prog 8 #[.int .i64 x, .int .i64 (n : Int)] w fun e w' => ∃ k : Nat, e = .returned (.int .i64 (k : Int)) ∧ k < n ∧ w' = w := by
  obtain ⟨r, hr⟩ : ∃ r, x.tmod (n : Int) = r := ⟨_, rfl⟩
  have hrb : -(n : Int) < r ∧ r < (n : Int) := by
    rw [← hr]
    by_cases h : x < 0
    · have e1 : x.tmod (n : Int) = -((-x).tmod (n : Int)) := by rw [Int.neg_tmod, Int.neg_neg]
      have e2 := Int.tmod_eq_emod_of_nonneg (a := -x) (b := n) (by omega)
      have e3 := Int.emod_nonneg (-x) (show (n : Int) ≠ 0 by omega)
      have e4 := Int.emod_lt_of_pos (-x) (show (0 : Int) < n by omega)
      omega
    · have e2 := Int.tmod_eq_emod_of_nonneg (a := x) (b := n) (by omega)
      have e3 := Int.emod_nonneg x (show (n : Int) ≠ 0 by omega)
      have e4 := Int.emod_lt_of_pos x (show (0 : Int) < n by omega)
      omega
  have hrw : IntKind.i64.wrap r = r := IntWalk.i64_in _ (by omega)
  have hnz : ¬ (n : Int) = 0 := by omega
  by_cases hneg : r < 0
  · obtain ⟨k, hk⟩ := Int.eq_ofNat_of_zero_le (show 0 ≤ r + n by omega)
    have hkw : IntKind.i64.wrap (r + n) = (k : Int) := by rw [IntWalk.i64_in _ (by omega), hk]
    have HK : Hid (k < n) := by show _ < _; omega
    clear hk hrb
    go_enter Tryd.func8, Tryd.ntmps8
    go_wp2
    go_ret
    exact ⟨k, rfl, HK.out, rfl⟩
  · obtain ⟨k, hk⟩ := Int.eq_ofNat_of_zero_le (show 0 ≤ r by omega)
    have HK : Hid (k < n) := by show _ < _; omega
    subst hk
    clear hrb
    go_enter Tryd.func8, Tryd.ntmps8
    go_wp2
    go_ret
    exact ⟨k, rfl, HK.out, rfl⟩
theorem own8_headJ {w : World} {B : Nat} {u : Value} {s : List Int} (h : Own8 w B u s) (hp : 0 < s.length) : ∃ g c, u = .slice (some ⟨g, 0, none⟩) s.length c ∧ s.length ≤ c ∧ c ≤ 9223372036854775807 ∧ B ≤ g ∧ (∀ j, j < s.length → w.cell? ⟨g, j, none⟩ = some (.int .u8 (s.getD j 0)) ∧ w.frozen? ⟨g, j, none⟩ = false) ∧
    ∀ (j : Nat) (x : Int), j < s.length → 0 ≤ x → x ≤ 255 → Own8 (w.setCell ⟨g, j, none⟩ (.int .u8 x)) B (.slice (some ⟨g, 0, none⟩) s.length c) (s.set j x) := by
  obtain ⟨h1, h2⟩ := h
  rcases h1.2 with ⟨rfl, h0⟩ | ⟨g, cap, cur, rfl, hb, hg, hle, hm, hsz, ht⟩
  · omega
  · simp only [Nat.mul_one] at hsz ht
    have hcell : ∀ j, j < s.length → w.cell? ⟨g, j, none⟩ = some (.int .u8 (s.getD j 0)) := fun j hj => by
      have := h1.cells (g := g) rfl j (.int .u8 (s.getD j 0)) (by rw [List.getElem?_map, List.getElem?_eq_getElem hj, List.getD_eq_getElem?_getD, List.getElem?_eq_getElem hj]; rfl)
      rw [Addr.add_lit, Nat.zero_add] at this
      exact this
    refine ⟨g, cap, rfl, hle, by simpa [maxLen] using hm, hb, fun j hj => ⟨hcell j hj, by unfold World.frozen?; rw [hg]; simp⟩, fun j x hj h0 h255 => ⟨⟨by simp, .inr ⟨g, cap, _, by rw [List.length_set], hb, heap_setCell_same w g j cur 5 (.int .u8 x) hg, by rw [List.length_set]; exact hle, hm, by simp [hsz], ?_⟩⟩, fun y hy => ?_⟩⟩
    · rw [List.length_set, Nat.mul_one, List.map_set, ← ht]
      apply List.ext_getElem?
      intro q
      simp only [Array.toList_setIfInBounds]
      rw [List.take_set]
    · rcases List.mem_or_eq_of_mem_set hy with hy | hy
      · exact h2 y hy
      · omega
end Go.Proofs.YthhjlopgpmaokabDoor
