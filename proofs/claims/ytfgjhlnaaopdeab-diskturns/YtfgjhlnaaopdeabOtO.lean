/- other: two sectors that are alike but for one bit. -/
import Derived.Test.YtfgjhlnaaopdeabOtM
namespace Go.Proofs.Ytfgjhlnaaopdeab
open Go.RowKit Go.Maps

/-- Alike but for just that bit. -/
def Bit1 (xs ys : List Int) (bit : Nat) : Prop := ∀ j, j < 512 → (xs.getD j 0).toNat ^^^ (ys.getD j 0).toNat = if j = bit / 8 then 2 ^ (bit % 8) else 0
theorem Bit1.symm {xs ys : List Int} {bit : Nat} (h : Bit1 xs ys bit) : Bit1 ys xs bit := fun j hj => by rw [Nat.xor_comm]; exact h j hj
theorem bit1_turn {s : List Int} (h : IsSec s) (bit : Nat) (hb : bit < 4096) : Bit1 (turnB s bit) s bit := by
  intro j hj
  have hl : s.length = 512 := h.1
  have _ := hb
  unfold turnB
  by_cases e : j = bit / 8
  · rw [if_pos e, ← e]
    have e1 : (s.set j (Int.ofNat ((s.getD j 0).toNat ^^^ 2 ^ (bit % 8)))).getD j 0 = Int.ofNat ((s.getD j 0).toNat ^^^ 2 ^ (bit % 8)) := by
      rw [List.getD_eq_getElem?_getD, List.getElem?_set_self (by omega)]; rfl
    rw [e1]
    show ((s.getD j 0).toNat ^^^ 2 ^ (bit % 8)) ^^^ (s.getD j 0).toNat = _
    rw [Nat.xor_comm, ← Nat.xor_assoc, Nat.xor_self, Nat.zero_xor]
  · rw [if_neg e]
    have e1 : (s.set (bit / 8) (Int.ofNat ((s.getD (bit / 8) 0).toNat ^^^ 2 ^ (bit % 8)))).getD j 0 = s.getD j 0 := by
      rw [List.getD_eq_getElem?_getD, List.getElem?_set_ne (fun h => e h.symm), ← List.getD_eq_getElem?_getD]
    rw [e1, Nat.xor_self]
theorem turnB_back {s : List Int} (h : IsSec s) {bit : Nat} (hb : bit < 4096) : turnB (turnB s bit) bit = s := by
  have hl : s.length = 512 := h.1
  have hq : bit / 8 < s.length := by omega
  have hx := h.2 _ (List.getElem_mem hq)
  have hg : s.getD (bit / 8) 0 = s[bit / 8] := by rw [List.getD_eq_getElem?_getD, List.getElem?_eq_getElem hq]; rfl
  unfold turnB
  rw [List.set_set, List.getD_eq_getElem?_getD, List.getElem?_set_self hq]
  simp only [Option.getD_some]
  rw [hg]
  have e : Int.ofNat ((Int.ofNat (s[bit / 8].toNat ^^^ 2 ^ (bit % 8))).toNat ^^^ 2 ^ (bit % 8)) = s[bit / 8] := by
    show Int.ofNat ((s[bit / 8].toNat ^^^ 2 ^ (bit % 8)) ^^^ 2 ^ (bit % 8)) = _
    rw [Nat.xor_assoc, Nat.xor_self, Nat.xor_zero]
    exact Int.toNat_of_nonneg hx.1
  rw [e, List.set_getElem_self]
set_option maxRecDepth 100000 in
set_option maxHeartbeats 2000000 in
theorem other_calls {w : World} {va vb : Value} {xs ys : List Int} {bit : Nat} (ha : IsB w va xs) (hb : IsB w vb ys) (hxl : xs.length = 512) (hyl : ys.length = 512) (hbit : bit < 4096) (h : Bit1 xs ys bit) :
    Calls Try.prog 21 #[va, vb, .int .i64 (bit : Int)] w fun e w' => e = .returned (.bool true) ∧ Below w.heap.size w w' := by
  obtain ⟨q, hq⟩ : ∃ q, bit / 8 = q := ⟨_, rfl⟩
  obtain ⟨r, hr⟩ : ∃ r, bit % 8 = r := ⟨_, rfl⟩
  have hr8 : r < 8 := by omega
  have hq5 : q < 512 := by omega
  have hdiv : (bit : Int).tdiv 8 = (q : Int) := by rw [Int.tdiv_eq_ediv_of_nonneg (by omega)]; omega
  have hmod : (bit : Int).tmod 8 = (r : Int) := by rw [Int.tmod_eq_emod_of_nonneg (by omega)]; omega
  have hdiv2 : (bit : Int) / 8 = (q : Int) := by omega
  have hmod2 : (bit : Int) % 8 = (r : Int) := by omega
  have hpw : ((2 : Int) ^ r % 256) = ((2 ^ r : Nat) : Int) := by
    have hp : (2 : Nat) ^ r < 2 ^ 8 := Nat.pow_lt_pow_right (by omega) hr8
    have : (2 : Int) ^ r = ((2 ^ r : Nat) : Int) := by simp
    rw [this]
    generalize (2 : Nat) ^ r = pw at hp
    omega
  have HX : Hid (∀ j, j < 512 → bits .xor .u8 (xs.getD j 0) (ys.getD j 0) = if j = q then (2 : Int) ^ r % 256 else 0) := fun j hj => by
    have hx := ha.mem _ (List.getElem_mem (show j < xs.length by omega))
    have hy := hb.mem _ (List.getElem_mem (show j < ys.length by omega))
    have gx : xs.getD j 0 = xs[j] := by rw [List.getD_eq_getElem?_getD, List.getElem?_eq_getElem (by omega)]; rfl
    have gy : ys.getD j 0 = ys[j] := by rw [List.getD_eq_getElem?_getD, List.getElem?_eq_getElem (by omega)]; rfl
    have h9 := h j hj
    rw [gx, gy] at h9 ⊢
    rw [u8_xor _ _ hx.1 (by omega) hy.1 (by omega), h9, hq, hr]
    by_cases e : j = q
    · rw [if_pos e, if_pos e, hpw]
    · rw [if_neg e, if_neg e]; rfl
  obtain ⟨_, aa, ca, rfl, hla, hma, _, hca⟩ := ha
  obtain ⟨_, ab, cb, rfl, hlb, hmb, _, hcb⟩ := hb
  rw [hxl] at hla hca ⊢
  rw [hyl] at hlb hcb ⊢
  obtain ⟨b1, o1, rfl, hc1⟩ := hca (by decide)
  obtain ⟨b2, o2, rfl, hc2⟩ := hcb (by decide)
  have HC1 := hide hc1
  have HC2 := hide hc2
  clear hc1 hc2 hca hcb h hpw hbit hq hr
  go_enter Try.func21, Try.ntmps21
  go_wp2
  go_loopw [7] (fun iv wr => ∃ k : Nat, k ≤ 512 ∧ iv = .int .i64 (k : Int) ∧ Hid (Below w.heap.size w wr)) (fun iv _ => 512 - (intOf iv).toNat)
  case atStart => exact ⟨0, by omega, rfl, Below.refl _ _⟩
  case round =>
    obtain ⟨k, hk, rfl, HB⟩ := hrel
    by_cases hlt : k < 512
    · have h1 := unhide HC1 k hlt
      have h2 := unhide HC2 k hlt
      have hx := unhide HX k hlt
      have HSS : Hid (∀ W, Below w.heap.size w W → W.cell? ⟨b1, o1 + k, none⟩ = some (.int .u8 (xs.getD k 0)) ∧ W.cell? ⟨b2, o2 + k, none⟩ = some (.int .u8 (ys.getD k 0))) := fun W hW =>
        ⟨(hW.cell (p := ⟨b1, o1 + k, none⟩) (World.block_lt_of_cell? _ _ h1)).trans h1, (hW.cell (p := ⟨b2, o2 + k, none⟩) (World.block_lt_of_cell? _ _ h2)).trans h2⟩
      clear h1 h2
      generalize xs.getD k 0 = xk at *
      generalize ys.getD k 0 = yk at *
      by_cases hkq : k = q
      · rw [if_pos hkq] at hx
        subst hkq
        go_wp2_with fail
        focus (go_region_held3 (fun W => W.cell? ⟨b1, o1 + k, none⟩ = some (.int .u8 xk) ∧ W.cell? ⟨b2, o2 + k, none⟩ = some (.int .u8 yk)) ((exact unhide HSS _ HB.out.drew)) (fail))
        go_wp2
        exact ⟨⟨k + 1, by omega, by go_num, HB.out.drew⟩, by simp [intOf]; omega⟩
      · rw [if_neg hkq] at hx
        have hkq2 : ¬ (k : Int) = (q : Int) := by omega
        go_wp2_with fail
        focus (go_region_held3 (fun W => W.cell? ⟨b1, o1 + k, none⟩ = some (.int .u8 xk) ∧ W.cell? ⟨b2, o2 + k, none⟩ = some (.int .u8 yk)) ((exact unhide HSS _ HB.out.drew)) (fail))
        go_wp2
        exact ⟨⟨k + 1, by omega, by go_num, HB.out.drew⟩, by simp [intOf]; omega⟩
    · go_wp2
      go_ret
      exact ⟨rfl, HB.out⟩
end Go.Proofs.Ytfgjhlnaaopdeab
